/-
  The document's Avoid, At, Soon of layer 11.
-/
import Derived.Test.YtldcagjnngkabaaGreatDoorPart36
import Derived.Test.YtldcagjnngkabaaGreatDoorPart37
import Derived.Test.YtldcagjnngkabaaGreatDoorPart9
import Derived.Laws.AppendOwn
import Derived.Laws.AppendOwnNone
import Derived.Test.YtldcagjnngkabaaGreatDoorPart27
import Derived.ChangeSlices
import Derived.Test.YtldcagjnngkabaaGreatDoorPart16
import Derived.Test.YtldcagjnngkabaaGreatDoorPart28
import Derived.Test.YtldcagjnngkabaaGreatDoorPart5
namespace Go.Proofs.YtldcagjnngkabaaGreatDoor
open Go Go.RowKit Go.Shelf

attribute [local go_sem] Oper.semAt_some ext_const

set_option maxRecDepth 100000 in
set_option maxHeartbeats 8000000 in
theorem ravoid_calls {a b c x y : Int} {n l vm vl : Value} {ns ls : List (List Slt)} {mw lw : List Nat} (w : World) (hN : Yl w n ns) (hL : Yl w l ls) (hM : Wds w vm mw) (hK : Wds w vl lw) (hs : Small ns ls) :
    Calls Tryz.prog 17 #[Y5 a b c n l, vm, vl, S2 x y] w fun e W' => ∃ u v, e = .returned (.tuple #[u, v, I (avE a b c ns ls mw lw x y)]) ∧ SetR W' w.heap.size u (wordsE (avE a b c ns ls mw lw x y) ns.length (fun k => busyP ns x y k || hasW mw k)) ∧
      SetR W' w.heap.size v (wordsE (avE a b c ns ls mw lw x y) ls.length (fun k => busyP ls x y k || hasW lw k)) ∧ Below w.heap.size w W' := by
  obtain ⟨W, hW, hB0, k0, k1⟩ := two_start w (K5 a b c n l) (C2 x y) 26 36
  have HW : Hid ((w.alloc (.cells (K5 a b c n l) 26)).alloc (.cells (C2 x y) 36) = W) := hW
  have HB := rBusyY_calls (a := a) (b := b) (c := c) (x := x) (y := y) W (hN.later hB0) (hL.later hB0) hs
  by_cases h0 : busyE a b c ns ls x y = 0
  · have hm : mayY a b c ns ls := by
      refine mayYB_iff.1 ?_
      cases e : mayYB a b c ns ls
      · simp [busyE, e] at h0
      · rfl
    obtain ⟨h1, h2, h3⟩ := hm.bd
    have e3 : (3 * (ns.length : Int)) = ((3 * ns.length : Nat) : Int) := by omega
    rw [h0] at HB
    have HB : Hid (Calls Tryz.prog 35 #[Y5 a b c n l, S2 x y] W fun e W' => ∃ u v, e = .returned (.tuple #[u, v, I 0]) ∧ SetR W' W.heap.size u (setOf ns.length (busyP ns x y)) ∧ SetR W' W.heap.size v (setOf ls.length (busyP ls x y)) ∧ Below W.heap.size W W') := HB
    have HQ : Hid (∀ w', Below W.heap.size W w' → Calls Tryz.prog 36 #[I ns.length, vm, vl] w' fun e W' => e = .returned (.bool (mayW ns.length mw lw)) ∧ W' = w') := fun w' hb => rmayW_calls h1 (by omega) w' (hM.later (then_below hB0 hb)) (hK.later (then_below hB0 hb))
    have HJ1 : Hid (mayW ns.length mw lw = true → ∀ w' u, Below W.heap.size W w' → Wds w' u (setOf ns.length (busyP ns x y)) → Calls Tryz.prog 37 #[I ns.length, u, vm] w' fun e W' => ∃ r, e = .returned r ∧ SetR W' w'.heap.size r (setOf ns.length (fun k => busyP ns x y k || hasW mw k)) ∧ Below w'.heap.size w' W') :=
      fun hq w' u hb hu => rjoined_calls h1 (by omega) _ w' hu (hM.later (then_below hB0 hb)) (mayW_err h1 (by omega) hq).1
    have HJ2 : Hid (mayW ns.length mw lw = true → ∀ w' u, Below W.heap.size W w' → Wds w' u (setOf ls.length (busyP ls x y)) → Calls Tryz.prog 37 #[I (3 * (ns.length : Int)), u, vl] w' fun e W' => ∃ r, e = .returned r ∧ SetR W' w'.heap.size r (setOf ls.length (fun k => busyP ls x y k || hasW lw k)) ∧ Below w'.heap.size w' W') :=
      fun hq w' u hb hu => by
        have he := (mayW_err h1 (by omega) hq).2
        rw [h3] at hu ⊢
        rw [e3] at he ⊢
        exact rjoined_calls (by omega) (by omega) _ w' hu (hK.later (then_below hB0 hb)) he
    have hw3 : wrap64 (3 * (ns.length : Int)) = 3 * (ns.length : Int) := wrap_in _ (by omega)
    have eE : avE a b c ns ls mw lw x y = if mayW ns.length mw lw then 0 else 8 := by rw [avE, if_pos h0]
    rw [eE]
    obtain ⟨_, _, rfl, _⟩ := hN.form
    obtain ⟨_, _, rfl, _⟩ := hL.form
    clear hW hN hL hM hK hm hs h0 h1 h2 h3 e3 eE
    generalize mayW ns.length mw lw = q at *
    generalize setOf ns.length (busyP ns x y) = S1 at *
    generalize setOf ls.length (busyP ls x y) = S2' at *
    obtain ⟨Z1, hZ1⟩ : ∃ Z, Z = setOf ns.length (fun k => busyP ns x y k || hasW mw k) := ⟨_, rfl⟩
    obtain ⟨Z2, hZ2⟩ : ∃ Z, Z = setOf ls.length (fun k => busyP ls x y k || hasW lw k) := ⟨_, rfl⟩
    rw [← hZ1] at HJ1
    rw [← hZ2] at HJ2
    have HE1 : Hid (q = true → wordsE (if q then 0 else 8) ns.length (fun k => busyP ns x y k || hasW mw k) = Z1) := fun h => by rw [h, hZ1]; rfl
    have HE2 : Hid (q = true → wordsE (if q then 0 else 8) ls.length (fun k => busyP ls x y k || hasW lw k) = Z2) := fun h => by rw [h, hZ2]; rfl
    have HN1 : Hid (q = false → wordsE (if q then 0 else 8) ns.length (fun k => busyP ns x y k || hasW mw k) = []) := fun h => by rw [h]; rfl
    have HN2 : Hid (q = false → wordsE (if q then 0 else 8) ls.length (fun k => busyP ls x y k || hasW lw k) = []) := fun h => by rw [h]; rfl
    clear hZ1 hZ2
    generalize wordsE (if q then 0 else 8) ns.length (fun k => busyP ns x y k || hasW mw k) = R1 at *
    generalize wordsE (if q then 0 else 8) ls.length (fun k => busyP ls x y k || hasW lw k) = R2 at *
    generalize ns.length = n1 at *
    generalize ls.length = n2 at *
    obtain ⟨p0, p1, p2, p3, p4, hz⟩ := k0.five
    obtain ⟨x0, x1, hz1⟩ := k1.pair (Below.refl _ _)
    cases q
    · obtain rfl := HN1.out rfl
      obtain rfl := HN2.out rfl
      clear HE1 HE2 HN1 HN2 HJ1 HJ2
      go_enter Tryz.func17, Tryz.ntmps17
      go_wp2_with fail
      rw [HW.out]
      refine HB.out.mono ?_
      rintro e w1 ⟨u, v, rfl, hu, hv, hT⟩
      clear hu hv p0 p1 p2 p3 p4 hz x0 x1 hz1
      obtain ⟨p0, p1, p2, p3, p4, hz⟩ := k0.yard hT
      go_wp2_with fail
      refine (HQ.out _ hT).mono ?_
      rintro e w2 ⟨rfl, hw2⟩
      subst hw2
      go_wp2
      exact bodyPost_ret (results_tmp3 rfl _ _ _) rfl ⟨_, _, rfl, .inr ⟨rfl, rfl⟩, .inr ⟨rfl, rfl⟩, then_below hB0 hT⟩
    · obtain rfl := HE1.out rfl
      obtain rfl := HE2.out rfl
      have HK1 : Hid (∀ w' u, Below W.heap.size W w' → Wds w' u S1 → Calls Tryz.prog 37 #[I n1, u, vm] w' fun e W' => ∃ r, e = .returned r ∧ SetR W' w'.heap.size r R1 ∧ Below w'.heap.size w' W') := HJ1.out rfl
      have HK2 : Hid (∀ w' u, Below W.heap.size W w' → Wds w' u S2' → Calls Tryz.prog 37 #[I (3 * (n1 : Int)), u, vl] w' fun e W' => ∃ r, e = .returned r ∧ SetR W' w'.heap.size r R2 ∧ Below w'.heap.size w' W') := HJ2.out rfl
      clear HE1 HE2 HN1 HN2 HJ1 HJ2
      go_enter Tryz.func17, Tryz.ntmps17
      go_wp2_with fail
      rw [HW.out]
      refine HB.out.mono ?_
      rintro e w1 ⟨u, v, rfl, hu, hv, hT⟩
      have HU : Hid (Wds w1 u S1) := hu.wds
      have HV : Hid (Wds w1 v S2') := hv.wds
      clear hu hv p0 p1 p2 p3 p4 hz x0 x1 hz1
      obtain ⟨p0, p1, p2, p3, p4, hz⟩ := k0.yard hT
      go_wp2_with fail
      refine (HQ.out _ hT).mono ?_
      rintro e w2 ⟨rfl, hw2⟩
      subst hw2
      clear p0 p1 p2 p3 p4 hz
      go_wp2_with fail
      refine (HK1.out _ _ hT HU.out).mono ?_
      rintro e w3 ⟨r1, rfl, hr1, hT3⟩
      have HR1 : Hid (SetR w3 w.heap.size r1 R1) := hr1.weak (then_below hB0 hT).size
      have hT3' := then_below hT hT3
      clear hr1
      go_wp2_with fail
      refine (HK2.out _ _ hT3' (HV.out.later hT3)).mono ?_
      rintro e w4 ⟨r2, rfl, hr2, hT4⟩
      have HF : Hid (SetR w4 w.heap.size r1 R1 ∧ SetR w4 w.heap.size r2 R2 ∧ Below w.heap.size w w4) := ⟨HR1.out.later hT4, hr2.weak (then_below hB0 hT3').size, then_below hB0 (then_below hT3' hT4)⟩
      clear hr2
      go_wp2
      exact bodyPost_ret (results_tmp3 rfl _ _ _) rfl ⟨_, _, rfl, HF.out.1, HF.out.2.1, HF.out.2.2⟩
  · have eE : avE a b c ns ls mw lw x y = busyE a b c ns ls x y := by rw [avE, if_neg h0]
    rw [eE]
    have HB : Hid (Calls Tryz.prog 35 #[Y5 a b c n l, S2 x y] W fun e W' => ∃ u v, e = .returned (.tuple #[u, v, I (busyE a b c ns ls x y)]) ∧ Below W.heap.size W W') := by
      refine HB.mono ?_
      rintro e W' ⟨u, v, h, _, _, hB⟩
      exact ⟨u, v, h, hB⟩
    have HN1 : Hid (wordsE (busyE a b c ns ls x y) ns.length (fun k => busyP ns x y k || hasW mw k) = []) := by show _ = _; rw [wordsE, if_neg h0]
    have HN2 : Hid (wordsE (busyE a b c ns ls x y) ls.length (fun k => busyP ls x y k || hasW lw k) = []) := by show _ = _; rw [wordsE, if_neg h0]
    obtain ⟨_, _, rfl, _⟩ := hN.form
    obtain ⟨_, _, rfl, _⟩ := hL.form
    clear hW hN hL hM hK hs eE
    generalize wordsE (busyE a b c ns ls x y) ns.length (fun k => busyP ns x y k || hasW mw k) = R1 at *
    generalize wordsE (busyE a b c ns ls x y) ls.length (fun k => busyP ls x y k || hasW lw k) = R2 at *
    generalize busyE a b c ns ls x y = er at *
    have hne : (er != 0) = true := by simpa using h0
    clear h0
    generalize ns.length = n1 at *
    generalize ls.length = n2 at *
    obtain ⟨p0, p1, p2, p3, p4, hz⟩ := k0.five
    obtain ⟨x0, x1, hz1⟩ := k1.pair (Below.refl _ _)
    go_enter Tryz.func17, Tryz.ntmps17
    go_wp2_with fail
    rw [HW.out]
    refine HB.out.mono ?_
    rintro e w1 ⟨u, v, rfl, hT⟩
    go_wp2
    exact bodyPost_ret (results_tmp3 rfl _ _ _) rfl ⟨_, _, rfl, .inr ⟨rfl, HN1.out⟩, .inr ⟨rfl, HN2.out⟩, then_below hB0 hT⟩

set_option maxRecDepth 100000 in
set_option maxHeartbeats 8000000 in
theorem rAt_calls {a b c m long : Int} {n l : Value} {ns ls : List (List Slt)} {bx : Bx} {t0 t1 t2 : Bool} (w : World) (hN : Yl w n ns) (hL : Yl w l ls) (hs : Small ns ls) (hm : mayY a b c ns ls) (hp : mayP a b c bx t0 t1 t2) (h0 : 0 ≤ m) (hl : 1 ≤ long) (hM : long ≤ 1099511627776 - m) :
    Calls Tryz.prog 43 #[Y5 a b c n l, P9 bx t0 t1 t2, I m, I long] w fun e W' => e = .returned (.bool (freeP ns ls (midP a b c bx) (cabP a b c bx t0 t1 t2) m (m + long))) ∧ Below w.heap.size w W' := by
  rw [← well_free hm bx t0 t1 t2 (by omega : m < m + long)]
  obtain ⟨h1, h2, h3⟩ := hm.bd
  obtain ⟨W, hW, hB0, k0, k1⟩ := two_start w (K5 a b c n l) (C9 bx t0 t1 t2) 26 43
  have HW : Hid ((w.alloc (.cells (K5 a b c n l) 26)).alloc (.cells (C9 bx t0 t1 t2) 43) = W) := hW
  have HT : Hid (Calls Tryz.prog 73 #[Y5 a b c n l, S2 m (m + long)] W fun e W' => ∃ u v, e = .returned (.tuple #[u, v]) ∧ SetR W' W.heap.size u (setOf ns.length (busyP ns m (m + long))) ∧ SetR W' W.heap.size v (setOf ls.length (busyP ls m (m + long))) ∧ Below W.heap.size W W') := rThrough_calls W (hN.later hB0) (hL.later hB0) hs h1 (by omega)
  have HX : Hid (∀ w' u v, Wds w' u (setOf ns.length (busyP ns m (m + long))) → Wds w' v (setOf ls.length (busyP ls m (m + long))) → Calls Tryz.prog 40 #[A3 a b c, P9 bx t0 t1 t2, u, v] w' fun e W' => e = .returned (.bool (wellB a b c bx t0 t1 t2 (setOf ns.length (busyP ns m (m + long))) (setOf ls.length (busyP ls m (m + long))))) ∧ Below w'.heap.size w' W') := fun w' u v hu hv => rfclear_calls w' hm.1 hp hu hv
  have hw : wrap64 (m + long) = m + long := wrap_in _ (by omega)
  obtain ⟨_, _, rfl, _⟩ := hN.form
  obtain ⟨_, _, rfl, _⟩ := hL.form
  clear hW hN hL hm hs hp h1 h2 h3 h0 hl hM
  generalize wellB a b c bx t0 t1 t2 (setOf ns.length (busyP ns m (m + long))) (setOf ls.length (busyP ls m (m + long))) = r at *
  generalize setOf ns.length (busyP ns m (m + long)) = S1 at *
  generalize setOf ls.length (busyP ls m (m + long)) = S2' at *
  generalize ns.length = n1 at *
  generalize ls.length = n2 at *
  obtain ⟨p0, p1, p2, p3, p4, hz⟩ := k0.five
  go_enter Tryz.func43, Tryz.ntmps43
  go_wp2_with fail
  rw [HW.out]
  refine HT.out.mono ?_
  rintro e w1 ⟨u, v, rfl, hu, hv, hT⟩
  have HU : Hid (Wds w1 u S1) := hu.wds
  have HV : Hid (Wds w1 v S2') := hv.wds
  clear hu hv p0 p1 p2 p3 p4 hz
  obtain ⟨p0, p1, p2, p3, p4, hz⟩ := k0.yard hT
  obtain ⟨⟨x0, x1, x2⟩, ⟨x3, x4, x5⟩, ⟨x6, x7, x8⟩, hz1⟩ := k1.nine hT
  go_wp2_with fail
  refine (HX.out _ _ _ HU.out HV.out).mono ?_
  rintro e w2 ⟨rfl, hT2⟩
  go_wp2
  go_ret
  exact ⟨rfl, then_below hB0 (then_below hT hT2)⟩

theorem find_cons {g : Int → Bool} {l : List Int} {k : Nat} (h : k < l.length) : (g (l.getD k 0) = true → (l.drop k).find? g = some (l.getD k 0)) ∧ (g (l.getD k 0) = false → (l.drop k).find? g = (l.drop (k + 1)).find? g) := by
  rw [drop_cons h]
  exact ⟨fun e => by rw [List.find?_cons, e], fun e => by rw [List.find?_cons, e]⟩

set_option maxRecDepth 100000 in
set_option maxHeartbeats 8000000 in
theorem rsoon_go {a b c f long : Int} {n l vm vl : Value} {ns ls : List (List Slt)} {mw lw : List Nat} {bx : Bx} {t0 t1 t2 : Bool} (w : World) (hN : Yl w n ns) (hL : Yl w l ls) (hM : Wds w vm mw) (hK : Wds w vl lw) (hs : Small ns ls) (htot : (slotsY ns ls).length ≤ 20000) (hm : mayY a b c ns ls) (hp : mayP a b c bx t0 t1 t2) (he : hoE a b c bx t0 t1 t2 mw lw = 0) :
    Calls Tryz.prog 19 #[Y5 a b c n l, P9 bx t0 t1 t2, vm, vl, I f, I long] w fun e W' => e = .returned (.tuple #[
      I (goV 0 (askB f long) (wellB a b c bx t0 t1 t2 mw lw) (soonT ns ls (midP a b c bx) (cabP a b c bx t0 t1 t2) f long)), I (goE 0 (askB f long) (wellB a b c bx t0 t1 t2 mw lw) (soonT ns ls (midP a b c bx) (cabP a b c bx t0 t1 t2) f long))]) ∧ Below w.heap.size w W' := by
  have hmx : Tryz.prog.follows .mixedOrders = true := by kernel_rfl
  obtain ⟨W, hW, hB0, k0, k1⟩ := two_start w (K5 a b c n l) (C9 bx t0 t1 t2) 26 43
  have HW : Hid ((w.alloc (.cells (K5 a b c n l) 26)).alloc (.cells (C9 bx t0 t1 t2) 43) = W) := hW
  have HC : Hid (Calls Tryz.prog 41 #[Y5 a b c n l] W fun e W' => e = .returned (.bool true) ∧ Below W.heap.size W W') := by
    have := rmayY_calls (a := a) (b := b) (c := c) W (hN.later hB0) (hL.later hB0) hs
    rwa [mayYB_iff.2 hm] at this
  have HH : Hid (∀ w', Below W.heap.size W w' → Calls Tryz.prog 18 #[A3 a b c, P9 bx t0 t1 t2, vm, vl] w' fun e W' => e = .returned (.tuple #[.bool (wellB a b c bx t0 t1 t2 mw lw), I 0]) ∧ Below w'.heap.size w' W') := fun w' hb => by
    have := rholds_calls (a := a) (b := b) (c := c) (bx := bx) t0 t1 t2 w' (hM.later (then_below hB0 hb)) (hK.later (then_below hB0 hb))
    rw [hoB, he, decide_eq_true rfl, Bool.true_and] at this
    exact this
  have HT : Hid (∀ w', Below W.heap.size W w' → Calls Tryz.prog 42 #[Y5 a b c n l, I f] w' fun e W' => ∃ v, e = .returned v ∧ Lst W' w'.heap.size v (timesT f (slotsY ns ls)) ∧ Below w'.heap.size w' W') :=
    fun w' hb => rmoments_calls w' (hN.later (then_below hB0 hb)) (hL.later (then_below hB0 hb)) htot (by have := hs.nodes; omega) (by have := hs.links; omega)
  have HA : Hid (∀ m w', Below W.heap.size W w' → 0 ≤ m → 1 ≤ long → long ≤ 1099511627776 - m → Calls Tryz.prog 43 #[Y5 a b c n l, P9 bx t0 t1 t2, I m, I long] w' fun e W' => e = .returned (.bool (freeP ns ls (midP a b c bx) (cabP a b c bx t0 t1 t2) m (m + long))) ∧ Below w'.heap.size w' W') :=
    fun m w' hb q1 q2 q3 => rAt_calls w' (hN.later (then_below hB0 hb)) (hL.later (then_below hB0 hb)) hs hm hp q1 q2 q3
  have htl : (timesT f (slotsY ns ls)).length ≤ 60000 := by
    have := gathT_len (timeP f) (slotsY ns ls) [f]
    unfold timesT
    simp at this
    omega
  have HTm : Hid (0 ≤ f ∧ f < 1099511627776 → ∀ k, k < (timesT f (slotsY ns ls)).length → 0 ≤ (timesT f (slotsY ns ls)).getD k 0 ∧ (timesT f (slotsY ns ls)).getD k 0 < 1099511627776) := fun hf k hk => by
    have hmm : (timesT f (slotsY ns ls)).getD k 0 ∈ timesT f (slotsY ns ls) := by
      rw [List.getD_eq_getElem?_getD, List.getElem?_eq_getElem hk]
      exact List.getElem_mem hk
    rcases timesT_mem.1 hmm with h | h
    · omega
    · omega
  have HS : Hid (soonT ns ls (midP a b c bx) (cabP a b c bx t0 t1 t2) f long = ((timesT f (slotsY ns ls)).drop 0).find? (servesP ns ls (midP a b c bx) (cabP a b c bx t0 t1 t2) long)) := rfl
  have HSv : Hid (∀ m, servesP ns ls (midP a b c bx) (cabP a b c bx t0 t1 t2) long m = (decide (long ≤ 1099511627776 - m) && freeP ns ls (midP a b c bx) (cabP a b c bx t0 t1 t2) m (m + long))) := fun m => rfl
  obtain ⟨_, _, rfl, _⟩ := hN.form
  obtain ⟨_, _, rfl, _⟩ := hL.form
  clear hW hN hL hM hK hm hp htot he hs
  generalize wellB a b c bx t0 t1 t2 mw lw = r at *
  generalize soonT ns ls (midP a b c bx) (cabP a b c bx t0 t1 t2) f long = o at *
  generalize servesP ns ls (midP a b c bx) (cabP a b c bx t0 t1 t2) long = sv at *
  generalize hfp : freeP ns ls (midP a b c bx) (cabP a b c bx t0 t1 t2) = fp at *
  clear hfp
  generalize timesT f (slotsY ns ls) = ts at *
  generalize ns.length = n1 at *
  generalize ls.length = n2 at *
  have HAsk : Hid (askB f long = true → (0 ≤ f ∧ f < 1099511627776) ∧ 1 ≤ long) := askB_iff.1
  have HNot : Hid (askB f long = false → f < 0 ∨ (0 ≤ f ∧ 1099511627776 ≤ f) ∨ ((0 ≤ f ∧ f < 1099511627776) ∧ long < 1)) := fun h => by
    by_cases q1 : f < 0
    · exact .inl q1
    · by_cases q2 : 1099511627776 ≤ f
      · exact .inr (.inl ⟨by omega, q2⟩)
      · refine .inr (.inr ⟨by omega, ?_⟩)
        by_cases q3 : long < 1
        · exact q3
        · rw [askB_iff.2 ⟨by omega, by omega⟩] at h; cases h
  generalize askB f long = ask at *
  obtain ⟨gv, hgv⟩ : ∃ gv, gv = goV 0 ask r o := ⟨_, rfl⟩
  obtain ⟨ge, hge⟩ : ∃ ge, ge = goE 0 ask r o := ⟨_, rfl⟩
  have HGv : Hid (gv = goV 0 ask r o) := hgv
  have HGe : Hid (ge = goE 0 ask r o) := hge
  rw [← hgv, ← hge]
  clear hgv hge
  obtain ⟨p0, p1, p2, p3, p4, hz⟩ := k0.five
  go_enter Tryz.func19, Tryz.ntmps19
  go_wp2_with fail
  rw [HW.out]
  refine HC.out.mono ?_
  rintro e w1 ⟨rfl, hT⟩
  clear p0 p1 p2 p3 p4 hz
  obtain ⟨p0, p1, p2, p3, p4, hz⟩ := k0.yard hT
  obtain ⟨⟨x0, x1, x2⟩, ⟨x3, x4, x5⟩, ⟨x6, x7, x8⟩, hz1⟩ := k1.nine hT
  go_wp2_with fail
  refine (HH.out _ hT).mono ?_
  rintro e w2 ⟨rfl, hT2⟩
  have hTw := then_below hT hT2
  clear hT hT2 p0 p1 p2 p3 p4 hz x0 x1 x2 x3 x4 x5 x6 x7 x8 hz1
  cases ask
  · obtain ⟨q1, q2⟩ := go_1 r o
    have z1 : ge = 2 := HGe.out.trans q1
    have z2 : gv = 0 := HGv.out.trans q2
    clear q1 q2
    subst z1 z2
    have hnot := HNot.out rfl
    clear HGe HGv HAsk HNot HT HA HTm HS HSv
    rcases hnot with h | ⟨h, h'⟩ | ⟨⟨h, h'⟩, h''⟩
    · have d1 : decide (f < 0) = true := decide_eq_true h
      go_wp2
      go_ret2
      exact ⟨rfl, then_below hB0 hTw⟩
    · have d1 : decide (f < 0) = false := decide_eq_false (by omega)
      have d2 : decide (1099511627776 ≤ f) = true := decide_eq_true h'
      go_wp2
      go_ret2
      exact ⟨rfl, then_below hB0 hTw⟩
    · have d1 : decide (f < 0) = false := decide_eq_false (by omega)
      have d2 : decide (1099511627776 ≤ f) = false := decide_eq_false (by omega)
      have d3 : decide (long < 1) = true := decide_eq_true h''
      go_wp2
      go_ret2
      exact ⟨rfl, then_below hB0 hTw⟩
  · obtain ⟨hf, hl⟩ := HAsk.out rfl
    have HTk : Hid (∀ k, k < ts.length → 0 ≤ ts.getD k 0 ∧ ts.getD k 0 < 1099511627776) := HTm.out hf
    have d1 : decide (f < 0) = false := decide_eq_false (by omega)
    have d2 : decide (1099511627776 ≤ f) = false := decide_eq_false (by omega)
    have d3 : decide (long < 1) = false := decide_eq_false (by omega)
    clear HNot HAsk HTm
    cases r
    · obtain ⟨q1, q2⟩ := go_2 o
      have z1 : ge = 6 := HGe.out.trans q1
      have z2 : gv = 0 := HGv.out.trans q2
      clear q1 q2
      subst z1 z2
      clear HGe HGv HT HA HTk HS HSv
      go_wp2
      go_ret2
      exact ⟨rfl, then_below hB0 hTw⟩
    · obtain ⟨q1, q2⟩ := go_3 o
      have HE : Hid (ge = errO o) := HGe.out.trans q1
      have HV : Hid (gv = valO o) := HGv.out.trans q2
      have HL : Hid (1 ≤ long) := hl
      clear q1 q2 HGe HGv hf hl
      obtain ⟨p0, p1, p2, p3, p4, hz⟩ := k0.yard hTw
      go_wp2_with fail
      refine (HT.out _ hTw).mono ?_
      rintro e w3 ⟨vt, rfl, ht, hT3⟩
      obtain ⟨a1, c1, rfl, hv1⟩ := ht.its.view
      have HV1 : Hid (∀ k, k < ts.length → ∃ g off, a1 = some ⟨g, off, none⟩ ∧ g < w3.heap.size ∧ w3.cell? ⟨g, off + k, none⟩ = some (I (ts.getD k 0))) := hv1
      have hT3w := then_below hTw hT3
      have k03 := k0.later hT3w
      have k13 := k1.later hT3w
      clear hv1 ht p0 p1 p2 p3 p4 hz hT3 d1 d2 d3
      go_wp2
      go_loopw [17] (fun ix wr => ∃ k : Nat, k ≤ ts.length ∧ ix = .int .i64 k ∧ Hid (o = (ts.drop k).find? sv) ∧ Below w3.heap.size w3 wr) (fun ix _ => ts.length - (RowKit.intOf ix).toNat)
      case atStart => exact ⟨0, by omega, rfl, HS, Below.refl _ _⟩
      case round =>
        obtain ⟨k, hk, rfl, HO, hT⟩ := hrel
        by_cases hlt : (k : Int) < (ts.length : Int)
        · have hk' : k < ts.length := by omega
          obtain ⟨g, off, rfl, hg, hc⟩ := HV1.out k hk'
          have hc := (hT.cell (p := ⟨g, off + k, none⟩) hg).trans hc
          have hg := Nat.lt_of_lt_of_le hg hT.size
          have hm := HTk.out k hk'
          have HF := find_cons (g := sv) hk'
          rw [← HO.out] at HF
          have HFy : Hid (sv (ts.getD k 0) = true → o = some (ts.getD k 0)) := HF.1
          have HFn : Hid (sv (ts.getD k 0) = false → o = (ts.drop (k + 1)).find? sv) := HF.2
          have HSm := HSv.out (ts.getD k 0)
          have HAm : Hid (∀ x : Ext wr, long ≤ 1099511627776 - ts.getD k 0 → Calls Tryz.prog 43 #[Y5 a b c _ _, P9 bx t0 t1 t2, I (ts.getD k 0), I long] x.wd fun e W' => e = .returned (.bool (fp (ts.getD k 0) (ts.getD k 0 + long))) ∧ Below x.wd.heap.size x.wd W') := fun x hq => HA.out _ _ (then_below (then_below hT3w hT) x.le) hm.1 HL.out hq
          clear HF
          generalize ts.getD k 0 = m at *
          generalize fp m (m + long) = fr at *
          have hw1 : wrap64 (1099511627776 - m) = 1099511627776 - m := wrap_in _ (by omega)
          have q0 := k03.later hT
          have q1 := k13.later hT
          have y0 : ∀ x : Ext wr, x.wd.cell? ⟨g, off + k, none⟩ = some (I m) := fun x => (x.le.cell (p := ⟨g, off + k, none⟩) hg).trans hc
          have e0 := Ext.cell q0 0
          have e1 := Ext.cell q0 1
          have e2 := Ext.cell q0 2
          have e3 := Ext.cell q0 3
          have e4 := Ext.cell q0 4
          have f0 := Ext.cell q1 0
          have f1 := Ext.cell q1 1
          have f2 := Ext.cell q1 2
          have f3 := Ext.cell q1 3
          have f4 := Ext.cell q1 4
          have f5 := Ext.cell q1 5
          have f6 := Ext.cell q1 6
          have f7 := Ext.cell q1 7
          have f8 := Ext.cell q1 8
          simp at e0 e1 e2 e3 e4 f0 f1 f2 f3 f4 f5 f6 f7 f8
          by_cases hq : long ≤ 1099511627776 - m
          · have hqt : decide (long ≤ 1099511627776 - m) = true := decide_eq_true hq
            rw [hqt, Bool.true_and] at HSm
            have HAq : Hid (∀ x : Ext wr, Calls Tryz.prog 43 #[Y5 a b c _ _, P9 bx t0 t1 t2, I m, I long] x.wd fun e W' => e = .returned (.bool fr) ∧ Below x.wd.heap.size x.wd W') := fun x => HAm.out x hq
            clear HAm hq
            cases fr
            · have HO2 : Hid (o = (ts.drop (k + 1)).find? sv) := HFn.out HSm
              clear HSm HFy HFn
              go_wp2_with fail
              refine wp_region_look hmx (by kernel_rfl) ?_
              repeat (go_big_quiet_step (fail))
              go_big_quiet_step ((go_at_call 43; exact calls_ext (HAq.out _)))
              repeat (go_big_quiet_step (fail))
              refine wpQuiet_nil ?_
              intro X
              have hTX := then_below hT X.le
              clear hc hg y0 e0 e1 e2 e3 e4 f0 f1 f2 f3 f4 f5 f6 f7 f8
              go_wp2
              go_roundw
              case rel => exact ⟨k + 1, by omega, by go_num, HO2, hTX⟩
              case measure => simp [RowKit.intOf]; omega
            · obtain rfl := HFy.out HSm
              have hge : ge = 0 := HE.out
              have hgv : gv = m := HV.out
              clear HSm HFy HFn
              subst hge hgv
              go_wp2_with fail
              refine wp_region_look hmx (by kernel_rfl) ?_
              repeat (go_big_quiet_step (fail))
              go_big_quiet_step ((go_at_call 43; exact calls_ext (HAq.out _)))
              repeat (go_big_quiet_step (fail))
              refine wpQuiet_nil ?_
              intro X
              have hcX := y0 X
              have hTX := then_below hT X.le
              have hgX := Nat.lt_of_lt_of_le hg X.le.size
              clear hc hg y0 e0 e1 e2 e3 e4 f0 f1 f2 f3 f4 f5 f6 f7 f8
              go_wp2
              go_ret2
              exact ⟨rfl, then_below hB0 (then_below hT3w hTX)⟩
          · have hqt : decide (long ≤ 1099511627776 - m) = false := decide_eq_false hq
            rw [hqt, Bool.false_and] at HSm
            have HO2 : Hid (o = (ts.drop (k + 1)).find? sv) := HFn.out HSm
            clear HSm HFy HFn HAm
            go_wp2_with fail
            refine wp_region_look hmx (by kernel_rfl) ?_
            repeat (go_big_quiet_step (fail))
            refine wpQuiet_nil ?_
            intro X
            have hTX := then_below hT X.le
            clear hc hg y0 e0 e1 e2 e3 e4 f0 f1 f2 f3 f4 f5 f6 f7 f8
            go_wp2
            go_roundw
            case rel => exact ⟨k + 1, by omega, by go_num, HO2, hTX⟩
            case measure => simp [RowKit.intOf]; omega
        · obtain rfl : k = ts.length := by omega
          have ho : o = none := by rw [HO.out, List.drop_length]; rfl
          subst ho
          have hge : ge = 6 := HE.out
          have hgv : gv = 0 := HV.out
          subst hge hgv
          go_wp2
          go_ret2
          exact ⟨rfl, then_below hB0 (then_below hT3w hT)⟩

set_option maxRecDepth 100000 in
set_option maxHeartbeats 8000000 in
theorem rsoon_bad {a b c f long : Int} {n l vm vl : Value} {ns ls : List (List Slt)} {bx : Bx} (t0 t1 t2 : Bool) (w : World) (hN : Yl w n ns) (hL : Yl w l ls) (hs : Small ns ls) (hm : ¬ mayY a b c ns ls) :
    Calls Tryz.prog 19 #[Y5 a b c n l, P9 bx t0 t1 t2, vm, vl, I f, I long] w fun e W' => e = .returned (.tuple #[I 0, I 8]) ∧ Below w.heap.size w W' := by
  obtain ⟨W, hW, hB0, k0, k1⟩ := two_start w (K5 a b c n l) (C9 bx t0 t1 t2) 26 43
  have HW : Hid ((w.alloc (.cells (K5 a b c n l) 26)).alloc (.cells (C9 bx t0 t1 t2) 43) = W) := hW
  have HC : Hid (Calls Tryz.prog 41 #[Y5 a b c n l] W fun e W' => e = .returned (.bool false) ∧ Below W.heap.size W W') := by
    have := rmayY_calls (a := a) (b := b) (c := c) W (hN.later hB0) (hL.later hB0) hs
    rwa [mayYB_no hm] at this
  obtain ⟨_, _, rfl, _⟩ := hN.form
  obtain ⟨_, _, rfl, _⟩ := hL.form
  clear hW hN hL hm hs
  generalize ns.length = n1 at *
  generalize ls.length = n2 at *
  obtain ⟨p0, p1, p2, p3, p4, hz⟩ := k0.five
  go_enter Tryz.func19, Tryz.ntmps19
  go_wp2_with fail
  rw [HW.out]
  refine HC.out.mono ?_
  rintro e w1 ⟨rfl, hT⟩
  go_wp2
  go_ret2
  exact ⟨rfl, then_below hB0 hT⟩

set_option maxRecDepth 100000 in
set_option maxHeartbeats 8000000 in
theorem rsoon_herr {a b c f long : Int} {n l vm vl : Value} {ns ls : List (List Slt)} {mw lw : List Nat} {bx : Bx} (t0 t1 t2 : Bool) (w : World) (hN : Yl w n ns) (hL : Yl w l ls) (hM : Wds w vm mw) (hK : Wds w vl lw) (hs : Small ns ls) (hm : mayY a b c ns ls) (he : (hoE a b c bx t0 t1 t2 mw lw != 0) = true) :
    Calls Tryz.prog 19 #[Y5 a b c n l, P9 bx t0 t1 t2, vm, vl, I f, I long] w fun e W' => e = .returned (.tuple #[I 0, I (hoE a b c bx t0 t1 t2 mw lw)]) ∧ Below w.heap.size w W' := by
  obtain ⟨W, hW, hB0, k0, k1⟩ := two_start w (K5 a b c n l) (C9 bx t0 t1 t2) 26 43
  have HW : Hid ((w.alloc (.cells (K5 a b c n l) 26)).alloc (.cells (C9 bx t0 t1 t2) 43) = W) := hW
  have HC : Hid (Calls Tryz.prog 41 #[Y5 a b c n l] W fun e W' => e = .returned (.bool true) ∧ Below W.heap.size W W') := by
    have := rmayY_calls (a := a) (b := b) (c := c) W (hN.later hB0) (hL.later hB0) hs
    rwa [mayYB_iff.2 hm] at this
  have HH : Hid (∀ w', Below W.heap.size W w' → Calls Tryz.prog 18 #[A3 a b c, P9 bx t0 t1 t2, vm, vl] w' fun e W' => e = .returned (.tuple #[.bool (hoB a b c bx t0 t1 t2 mw lw), I (hoE a b c bx t0 t1 t2 mw lw)]) ∧ Below w'.heap.size w' W') := fun w' hb =>
    rholds_calls (a := a) (b := b) (c := c) (bx := bx) t0 t1 t2 w' (hM.later (then_below hB0 hb)) (hK.later (then_below hB0 hb))
  obtain ⟨_, _, rfl, _⟩ := hN.form
  obtain ⟨_, _, rfl, _⟩ := hL.form
  clear hW hN hL hM hK hm hs
  generalize hoE a b c bx t0 t1 t2 mw lw = er at *
  generalize hoB a b c bx t0 t1 t2 mw lw = r at *
  generalize ns.length = n1 at *
  generalize ls.length = n2 at *
  obtain ⟨p0, p1, p2, p3, p4, hz⟩ := k0.five
  go_enter Tryz.func19, Tryz.ntmps19
  go_wp2_with fail
  rw [HW.out]
  refine HC.out.mono ?_
  rintro e w1 ⟨rfl, hT⟩
  clear p0 p1 p2 p3 p4 hz
  obtain ⟨p0, p1, p2, p3, p4, hz⟩ := k0.yard hT
  obtain ⟨⟨x0, x1, x2⟩, ⟨x3, x4, x5⟩, ⟨x6, x7, x8⟩, hz1⟩ := k1.nine hT
  go_wp2_with fail
  refine (HH.out _ hT).mono ?_
  rintro e w2 ⟨rfl, hT2⟩
  clear p0 p1 p2 p3 p4 hz x0 x1 x2 x3 x4 x5 x6 x7 x8 hz1
  go_wp2
  go_ret2
  exact ⟨rfl, then_below hB0 (then_below hT hT2)⟩

/-- The document's Soon, whatever it is handed. -/
theorem rsoon_calls {a b c f long : Int} {n l vm vl : Value} {ns ls : List (List Slt)} {mw lw : List Nat} {bx : Bx} (t0 t1 t2 : Bool) (w : World) (hN : Yl w n ns) (hL : Yl w l ls) (hM : Wds w vm mw) (hK : Wds w vl lw) (hs : Small ns ls) (htot : (slotsY ns ls).length ≤ 20000) :
    Calls Tryz.prog 19 #[Y5 a b c n l, P9 bx t0 t1 t2, vm, vl, I f, I long] w fun e W' => e = .returned (.tuple #[I (soV a b c ns ls bx t0 t1 t2 mw lw f long), I (soE a b c ns ls bx t0 t1 t2 mw lw f long)]) ∧ Below w.heap.size w W' := by
  by_cases hm : mayY a b c ns ls
  · rw [soE, soV, if_pos (mayYB_iff.2 hm), if_pos (mayYB_iff.2 hm)]
    rcases errP_cases a b c bx t0 t1 t2 with ⟨hd, hp, he⟩ | ⟨he, _⟩
    · rw [if_pos he, if_pos he]
      have eE : hoE a b c bx t0 t1 t2 mw lw = if mayW (a * b * c).toNat mw lw then 0 else 8 := by rw [hoE, if_pos he]
      cases hw : mayW (a * b * c).toNat mw lw
      · rw [hw] at eE
        have := rsoon_herr (f := f) (long := long) (mw := mw) (lw := lw) (bx := bx) t0 t1 t2 w hN hL hM hK hs hm (by rw [eE]; rfl)
        rw [eE] at this
        simpa [goE, goV] using this
      · rw [hw] at eE
        have := rsoon_go (f := f) (long := long) w hN hL hM hK hs htot hm hp eE
        exact this
    · have h0 : errP a b c bx t0 t1 t2 ≠ 0 := by rcases he with h | h <;> rw [h] <;> decide
      rw [if_neg h0, if_neg h0]
      have eE : hoE a b c bx t0 t1 t2 mw lw = errP a b c bx t0 t1 t2 := by rw [hoE, if_neg h0]
      have := rsoon_herr (f := f) (long := long) (mw := mw) (lw := lw) (bx := bx) t0 t1 t2 w hN hL hM hK hs hm (by rw [eE]; simpa using h0)
      rw [eE] at this
      exact this
  · rw [soE, soV, mayYB_no hm]
    exact rsoon_bad t0 t1 t2 w hN hL hs hm

end Go.Proofs.YtldcagjnngkabaaGreatDoor

/-
  A set among the arguments: as it came in, and a copy of it.
-/
namespace Go.Proofs.YtldcagjnngkabaaGreatDoor
open Go Go.RowKit Go.Shelf

/-- A row of words that came in. -/
def ArgW (W : World) (v : Value) (ws : List Nat) : Prop := Wds W v ws ∧ (v = .slice none 0 0 ∨ ∃ ad cap, v = .slice (some ad) ws.length cap)
def ArgI (W : World) (v : Value) (xs : List Int) : Prop := Its W v xs ∧ (v = .slice none 0 0 ∨ ∃ ad cap, v = .slice (some ad) xs.length cap)

theorem owns_wds {W : World} {base : Nat} {v : Value} {ws : List Nat} (hw : ∀ x ∈ ws, x < 18446744073709551616) (h : W.ownsRow base 34 1 v ws.length (ws.map U)) : Wds W v ws := by
  obtain ⟨h1, h2⟩ := h
  refine ⟨hw, ?_⟩
  rcases h2 with ⟨rfl, hn⟩ | ⟨g, cap, cur, rfl, hg, hh, hc, hc2, hs, ht⟩
  · have : ws = [] := List.length_eq_zero_iff.1 hn
    subst this
    exact Sl.nil W
  · refine ⟨_, cap, by simp, fun k hk => ⟨g, 0, rfl, (Array.getElem?_eq_some_iff.1 hh).1, ?_⟩⟩
    have hb : Blk W g 34 cur := hh
    rw [Nat.zero_add, hb.cell k]
    have := congrArg (fun l => l[k]?) ht
    simp only [Nat.mul_one] at this
    rw [List.length_map] at hk
    rw [List.getElem?_take_of_lt hk, Array.getElem?_toList] at this
    exact this

/-- 'own = append(own, s...)', own nil. -/
theorem wpList_copy {ops : Array Oper} {rest : List Oper} {o : Oper} {a : Act} {Q : Exit → Act → World → Prop} {W : World} {v : Value} {ws : List Nat} (hgd : o.guard = none) (s x : Operand)
    (ho : o.op = .call { callee := .builtin .append, args := #[s, x], argTypes := #[30, 30] }) (hs : a.eval s = .slice none 0 0) (hx : a.eval x = v)
    (hA : ArgW W v ws) (hl : ws.length ≤ 1000)
    (h : ∀ v' w', Wds w' v' ws → Below W.heap.size W w' → wpList Tryz.prog ops Q rest (a.put o.dst v') w') : wpList Tryz.prog ops Q (o :: rest) a W := by
  obtain ⟨i0, hi, hz0, hz1, hz2⟩ := info_parts info_u64
  obtain ⟨hW, rfl | ⟨ad, cap, rfl⟩⟩ := hA
  · have e : ws = [] := by
      obtain ⟨ao, c, e, _⟩ := hW.view
      simp only [Value.slice.injEq] at e
      exact List.length_eq_zero_iff.1 e.2.1.symm
    subst e
    exact wpList_append_own_none hgd s x 30 ho W.heap.size 34 i0 1 Tryz.underlying30 hi (.slice none 0 0) 0 [] hs (World.ownsRow_nil _ _ _ _) hx (h _ _ (Wds.nil W) (Below.refl _ _))
  · refine wpList_append_own (w := W) hgd s x 30 ho W.heap.size 34 i0 (.int .u64 0) 1 8 Tryz.underlying30 hi hz0 hz1 hz2 rfl (by decide) (.slice none 0 0) 0 [] hs (World.ownsRow_nil _ _ _ _) ad ws.length cap (ws.map U) hx (by simp) ?_ ?_ ?_ ?_ ?_ ?_
    · intro j u hj
      obtain ⟨ao, c, e, hv⟩ := hW.view
      simp only [Value.slice.injEq] at e
      obtain ⟨rfl, -, -⟩ := e
      have hjl : j < ws.length := by
        have := (List.getElem?_eq_some_iff.1 hj).1
        simpa using this
      obtain ⟨g, off, e, hg, hc⟩ := hv j hjl
      simp only [Option.some.injEq] at e
      subst e
      have : (⟨g, off, none⟩ : Addr).add j = ⟨g, off + j, none⟩ := by
        unfold Addr.add
        split
        · rename_i h0; subst h0; rfl
        · rfl
      rw [this, hc, ← hj]
      simp [hjl]
    · intro u hu
      obtain ⟨y, _, rfl⟩ := List.mem_map.1 hu
      rfl
    · unfold maxLen; omega
    · omega
    · omega
    · intro v' w1 hown' hgrow _
      refine h v' w1 (owns_wds hW.1 (by simpa using hown')) ?_
      exact (Below.refl _ W).grown hgrow (Nat.le_refl _) (fun k hk => by cases hk)

end Go.Proofs.YtldcagjnngkabaaGreatDoor

/-
  How a set, and a list of whole numbers, among a statement's arguments is opened.
-/
namespace Go.Proofs.YtldcagjnngkabaaGreatDoor
open Go Go.ChangeShapes Go.WideShapes Go.ChangeAt Go.RowKit

theorem spot_none {w : World} {a : Addr} {v : Value} (h : w.cell? a = some v) : a.spot = none := by
  unfold World.cell? at h
  split at h
  · split at h
    · cases h
    · rename_i hs
      cases hq : a.spot
      · rfl
      · rw [hq] at hs; exact absurd rfl hs
  · cases h
theorem block_lt {w : World} {a : Addr} {v : Value} (h : w.cell? a = some v) : a.block < w.heap.size := by
  unfold World.cell? at h
  split at h
  · rename_i hs
    exact (Array.getElem?_eq_some_iff.1 hs).1
  · cases h

set_option maxRecDepth 100000 in
/-- A slice of numbers of one kind, as it came in. -/
theorem open_row_of {P : Program} {w : World} {H : Type} {enc : TypeId × Value → H} {r : Reach} {b0 base : Nat} {spare : Nat → Bool} {held : Bool} {t e : TypeId} {k : IntKind} {v : Value} {d : DataW H} {p : List MemPlace}
    (ht : P.underlying t = some (.slice e)) (he : P.underlying e = some (.int k)) (hc : P.cellsOf e = 1)
    (hv : Value.okWide P w r b0 t v) (h : DataW.Trod enc P w base spare held t v d p) :
    ∃ zs : List Int, (∀ z ∈ zs, (Lit.int k z).wf = true) ∧ Sl w v (zs.map (Value.int k)) ∧ (v = .slice none 0 0 ∧ zs = [] ∨ ∃ ad cap, v = .slice (some ad) zs.length cap) := by
  obtain ⟨a, len, cap, rfl⟩ := okWide_slice ht hv
  obtain ⟨fuel, hf⟩ := h
  rcases open_ints ht he hc hf with ⟨hcs, -⟩ | ⟨a0, len0, cap0, zs, hcs, _, hl, _, hz, _, hcell, hwf⟩
  · have e0 : Value.slice a len cap = .slice none 0 0 := by
      have : [Value.slice a len cap] = [.slice none 0 0] := hcs
      exact List.head_eq_of_cons_eq this
    rw [e0]
    exact ⟨[], fun _ h => (by cases h), Sl.nil w, .inl ⟨rfl, rfl⟩⟩
  · have e0 : Value.slice a len cap = .slice (some a0) len0 cap0 := by
      have : [Value.slice a len cap] = [.slice (some a0) len0 cap0] := hcs
      exact List.head_eq_of_cons_eq this
    rw [e0]
    have hlz : len0 ≤ zs.length := by rw [hz]; split <;> omega
    have hlt : (zs.take len0).length = len0 := by simp [hlz]
    refine ⟨zs.take len0, fun z hz' => hwf z (List.mem_of_mem_take hz'), ⟨some a0, cap0, by simp [hlz], fun i hi => ?_⟩, .inr ⟨a0, cap0, by rw [hlt]⟩⟩
    rw [List.length_map, hlt] at hi
    have hi2 : i < zs.length := by omega
    have c0 := hcell i hi2
    have cc := hcell 0 (by omega)
    obtain ⟨g, off, sp⟩ := a0
    have hs : sp = none := by
      have := spot_none cc
      simpa [Addr.add] using this
    subst hs
    have ea : (⟨g, off, none⟩ : Addr).add i = ⟨g, off + i, none⟩ := by
      unfold Addr.add
      split
      · rename_i h0; subst h0; rfl
      · rfl
    rw [ea] at c0
    exact ⟨g, off, rfl, block_lt c0, by rw [c0]; simp [hi, hi2]⟩

theorem word_of {z : Int} (h : (Lit.int .u64 z).wf = true) : 0 ≤ z ∧ z < 18446744073709551616 := by
  unfold Lit.wf at h
  simp [IntKind.min, IntKind.max, IntKind.signed, IntKind.bits] at h
  omega

set_option maxRecDepth 100000 in
theorem open_set {w : World} {H : Type} {enc : TypeId × Value → H} {r : Reach} {b0 base : Nat} {spare : Nat → Bool} {held : Bool} {v : Value} {d : DataW H} {p : List MemPlace}
    (hv : Value.okWide Tryz.prog w r b0 30 v) (h : DataW.Trod enc Tryz.prog w base spare held 30 v d p) : ∃ ws : List Nat, ArgW w v ws := by
  obtain ⟨zs, hw, hs, hc⟩ := open_row_of Tryz.underlying30 Tryz.underlying34 (by kernel_rfl) hv h
  have e : (zs.map Int.toNat).map U = zs.map (Value.int .u64) := by
    rw [List.map_map]
    apply List.map_congr_left
    intro z hz
    have := word_of (hw z hz)
    show Value.int .u64 ((z.toNat : Nat) : Int) = _
    rw [Int.toNat_of_nonneg this.1]
  refine ⟨zs.map Int.toNat, ⟨fun x hx => ?_, by rw [e]; exact hs⟩, ?_⟩
  · obtain ⟨z, hz, rfl⟩ := List.mem_map.1 hx
    have := word_of (hw z hz)
    omega
  · rcases hc with ⟨rfl, _⟩ | ⟨ad, cap, rfl⟩
    · exact .inl rfl
    · exact .inr ⟨ad, cap, by simp⟩

set_option maxRecDepth 100000 in
theorem open_list {w : World} {H : Type} {enc : TypeId × Value → H} {r : Reach} {b0 base : Nat} {spare : Nat → Bool} {held : Bool} {v : Value} {d : DataW H} {p : List MemPlace}
    (hv : Value.okWide Tryz.prog w r b0 76 v) (h : DataW.Trod enc Tryz.prog w base spare held 76 v d p) : ∃ xs : List Int, ArgI w v xs ∧ ∀ x ∈ xs, (Lit.int .i64 x).wf = true := by
  obtain ⟨zs, hw, hs, hc⟩ := open_row_of Tryz.underlying76 Tryz.underlying3 (by kernel_rfl) hv h
  refine ⟨zs, ⟨hs, ?_⟩, hw⟩
  rcases hc with ⟨rfl, _⟩ | h
  · exact .inl rfl
  · exact .inr h

end Go.Proofs.YtldcagjnngkabaaGreatDoor

/-
  What the statements of cals ask, as plain facts of sets.
-/
namespace Go.Proofs.YtldcagjnngkabaaGreatDoor
open Go Go.RowKit Go.Shelf

theorem both_ok {n : Nat} (h1 : 1 ≤ n) (h2 : n ≤ 12288) (p q : Nat → Bool) : errAll n [setOf n p, setOf n q] = 0 := errAll_both (setOf_err (by omega) (by omega) p) (setOf_err (by omega) (by omega) q)
theorem apartY_meet {cs : List (List Slt)} (h1 : 1 ≤ cs.length) (h2 : cs.length ≤ 12288) {x y : Int} (m : Int) (hne : x ≠ y) : meetSB cs.length (setOf cs.length (ownP cs x m)) (setOf cs.length (ownP cs y m)) = false := by
  rw [setOf_meet (by omega) (by omega)]
  cases e : anyB (setOf cs.length (ownP cs x m)) (setOf cs.length (ownP cs y m))
  · rfl
  · obtain ⟨j, _, a, b⟩ := setOf_any.1 e
    exact (own_apart hne a b).elim
theorem own_in {cs : List (List Slt)} (hm : maysC cs = true) (h1 : 1 ≤ cs.length) (h2 : cs.length ≤ 12288) {x m f t : Int} (ha : f ≤ m ∧ m < t) : inSB cs.length (setOf cs.length (ownP cs x m)) (setOf cs.length (busyP cs f t)) = true :=
  setOf_in (by omega) (by omega) fun _ _ h => own_busy hm ha h
theorem busy_in {cs : List (List Slt)} (hm : maysC cs = true) (h1 : 1 ≤ cs.length) (h2 : cs.length ≤ 12288) {f t f' t' : Int} (h : f < t) (h' : f' ≤ f ∧ t ≤ t') : inSB cs.length (setOf cs.length (busyP cs f t)) (setOf cs.length (busyP cs f' t')) = true :=
  setOf_in (by omega) (by omega) fun _ _ hb => busy_within hm h h' hb
theorem busy_or {cs : List (List Slt)} (hm : maysC cs = true) (h1 : 1 ≤ cs.length) (h2 : cs.length ≤ 12288) {f m t : Int} (h : f < m) (h' : m < t) : joinW orW cs.length (setOf cs.length (busyP cs f m)) (setOf cs.length (busyP cs m t)) = setOf cs.length (busyP cs f t) := by
  rw [setOf_or2 (by omega) (by omega)]
  exact setOf_congr fun k _ => (busy_both hm h h' k).symm
theorem wordsE_len (er : Int) {n : Nat} (h : n ≤ 12288) (p : Nat → Bool) : (wordsE er n p).length ≤ 100000 := by
  unfold wordsE
  split
  · rw [setOf_len, Int.toNat_natCast]; omega
  · simp
theorem eqY_self (a b c : Int) (ns ls : List (List Slt)) : eqY a b c ns ls a b c ns ls = true := by simp [eqY, eqD, eqL2]

end Go.Proofs.YtldcagjnngkabaaGreatDoor

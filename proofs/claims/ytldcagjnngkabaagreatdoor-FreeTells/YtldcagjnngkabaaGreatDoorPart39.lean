/-
  FreeTells: the walk. (Written by tools/gen/law_free_tells.py.)
-/
import Derived.Test.YtldcagjnngkabaaGreatDoorPart38
import Derived.Test.YtldcagjnngkabaaGreatDoorPart28
import Derived.Test.YtldcagjnngkabaaGreatDoorPart36
import Derived.Test.YtldcagjnngkabaaGreatDoorPart27
import Derived.Test.YtldcagjnngkabaaGreatDoorPart23
import Derived.ChangeSame
import Derived.ChangeArms
import Derived.Test.YtldcagjnngkabaaGreatDoorPart10
import Derived.Test.YtldcagjnngkabaaGreatDoorRows
import Derived.ProofKit
import Derived.LaidMore
import Derived.OpenShut
import Derived.Stop.Joined
import Derived.Lib.LaidTab
import Derived.SevenTiedAt
namespace Go.Proofs.YtldcagjnngkabaaGreatDoor
open Go Go.RowKit Go.Shelf

attribute [local go_sem] Oper.semAt_some ext_const

theorem words_len {er : Int} {n : Nat} (p : Nat → Bool) (h : n ≤ 10000) : (wordsE er n p).length ≤ 100000 := by
  unfold wordsE
  split
  · rw [setOf_len]; omega
  · simp

set_option maxRecDepth 100000 in
set_option maxHeartbeats 32000000 in
theorem freeTells_walk (a b c : Int) (bx : Bx) (t0 t1 t2 : Bool) (x y f long : Int) (w : World) (hTab : TabOk w) {n l vm vk : Value} {ns ls : List (List Slt)} {mw lw : List Nat} (hN : Yl w n ns) (hL : Yl w l ls) (bN : Lids ns) (bL : Lids ls) (hM : ArgW w vm mw) (hK' : ArgW w vk lw)
    (_wf : (Lit.int .i64 f).wf = true) (_wl : (Lit.int .i64 long).wf = true) :
    Calls Tryz.prog 4 #[Y5 a b c n l, P9 bx t0 t1 t2, vm, vk, S2 x y, I f, I long] w fun e W' => e = .returned (.bool true) ∧ Below w.heap.size w W' := by
  obtain ⟨W, hW, hB, hK, hP, hS⟩ := three_boxes w (K5 a b c n l) (C9 bx t0 t1 t2) (C2 x y) 26 43 36
  have HW : Hid (((w.alloc (.cells (K5 a b c n l) 26)).alloc (.cells (C9 bx t0 t1 t2) 43)).alloc (.cells (C2 x y) 36) = W) := hW
  have hM := hM.1
  have hK' := hK'.1
  have hT0 := Below.refl W.heap.size W
  have HG : Hid (∀ w1, Below W.heap.size W w1 → Calls Tryz.prog 15 #[Y5 a b c n l] w1 fun e W' => e = .returned (.bool (greatB ns ls)) ∧ Below w1.heap.size w1 W') := fun w1 hb => great_calls w1 (hN.later (then_below hB hb)) (hL.later (then_below hB hb)) bN bL
  have HTw : Hid (Small ns ls → ∀ w1, Below W.heap.size W w1 → Calls Tryz.prog 16 #[Y5 a b c n l] w1 fun e W' => ∃ u v, e = .returned (Y5 a b c u v) ∧ Yo W' w1.heap.size u ns ∧ Yo W' w1.heap.size v ls ∧ Below w1.heap.size w1 W') := fun h w1 hb => twin_calls w1 (hN.later (then_below hB hb)) (hL.later (then_below hB hb)) h
  have HA1 : Hid (∀ w1 u v, Below W.heap.size W w1 → Yl w1 u ns → Yl w1 v ls → Calls Tryz.prog 9 #[Y5 a b c u v, vm, vk, S2 x y] w1 fun e W' => ∃ r1 r2, e = .returned (.tuple #[r1, r2, I (avE a b c ns ls mw lw x y)]) ∧ SetR W' w1.heap.size r1 (wordsE (avE a b c ns ls mw lw x y) ns.length (fun k => busyP ns x y k || hasW mw k)) ∧ SetR W' w1.heap.size r2 (wordsE (avE a b c ns ls mw lw x y) ls.length (fun k => busyP ls x y k || hasW lw k)) ∧ Below w1.heap.size w1 W') := fun w1 u v hb h1 h2 => avoid_calls w1 h1 h2 (hM.later (then_below hB hb)) (hK'.later (then_below hB hb))
  have HA2 : Hid (Small ns ls → ∀ w1, Below W.heap.size W w1 → Calls Tryz.prog 17 #[Y5 a b c n l, vm, vk, S2 x y] w1 fun e W' => ∃ r1 r2, e = .returned (.tuple #[r1, r2, I (avE a b c ns ls mw lw x y)]) ∧ SetR W' w1.heap.size r1 (wordsE (avE a b c ns ls mw lw x y) ns.length (fun k => busyP ns x y k || hasW mw k)) ∧ SetR W' w1.heap.size r2 (wordsE (avE a b c ns ls mw lw x y) ls.length (fun k => busyP ls x y k || hasW lw k)) ∧ Below w1.heap.size w1 W') := fun h w1 hb => ravoid_calls w1 (hN.later (then_below hB hb)) (hL.later (then_below hB hb)) (hM.later (then_below hB hb)) (hK'.later (then_below hB hb)) h
  have HH1 : Hid (∀ w1, Below W.heap.size W w1 → Calls Tryz.prog 12 #[A3 a b c, P9 bx t0 t1 t2, vm, vk] w1 fun e W' => e = .returned (.tuple #[.bool (hoB a b c bx t0 t1 t2 mw lw), I (hoE a b c bx t0 t1 t2 mw lw)]) ∧ Below w1.heap.size w1 W') := fun w1 hb => holds_calls t0 t1 t2 w1 (hM.later (then_below hB hb)) (hK'.later (then_below hB hb))
  have HH2 : Hid (∀ w1, Below W.heap.size W w1 → Calls Tryz.prog 18 #[A3 a b c, P9 bx t0 t1 t2, vm, vk] w1 fun e W' => e = .returned (.tuple #[.bool (hoB a b c bx t0 t1 t2 mw lw), I (hoE a b c bx t0 t1 t2 mw lw)]) ∧ Below w1.heap.size w1 W') := fun w1 hb => rholds_calls t0 t1 t2 w1 (hM.later (then_below hB hb)) (hK'.later (then_below hB hb))
  have HS1 : Hid ((slotsY ns ls).length ≤ 10000 → ∀ w1 u v, Below W.heap.size W w1 → Yl w1 u ns → Yl w1 v ls → Calls Tryz.prog 10 #[Y5 a b c u v, P9 bx t0 t1 t2, vm, vk, I f, I long] w1 fun e W' => e = .returned (.tuple #[I (soV a b c ns ls bx t0 t1 t2 mw lw f long), I (soE a b c ns ls bx t0 t1 t2 mw lw f long)]) ∧ Below w1.heap.size w1 W') := fun h w1 u v hb h1 h2 => soon_calls t0 t1 t2 w1 (hTab.later (then_below hB hb)) h1 h2 (hM.later (then_below hB hb)) (hK'.later (then_below hB hb)) (by omega)
  have HS2 : Hid (Small ns ls → (slotsY ns ls).length ≤ 10000 → ∀ w1, Below W.heap.size W w1 → Calls Tryz.prog 19 #[Y5 a b c n l, P9 bx t0 t1 t2, vm, vk, I f, I long] w1 fun e W' => e = .returned (.tuple #[I (soV a b c ns ls bx t0 t1 t2 mw lw f long), I (soE a b c ns ls bx t0 t1 t2 mw lw f long)]) ∧ Below w1.heap.size w1 W') := fun h h' w1 hb => rsoon_calls t0 t1 t2 w1 (hN.later (then_below hB hb)) (hL.later (then_below hB hb)) (hM.later (then_below hB hb)) (hK'.later (then_below hB hb)) h (by omega)
  have HSm2 : Hid (Small ns ls → ∀ w1 u v, Below W.heap.size W w1 → Yl w1 u ns → Yl w1 v ls → Calls Tryz.prog 20 #[Y5 a b c u v, Y5 a b c n l] w1 fun e W' => e = .returned (.bool true) ∧ Below w1.heap.size w1 W') := fun h w1 u v hb h1 h2 => by
    have := rSameY_calls (a := a) (b := b) (c := c) (a' := a) (b' := b) (c' := c) w1 h1 h2 (hN.later (then_below hB hb)) (hL.later (then_below hB hb)) (by have := h.nodes; omega) (by have := h.links; omega) (fun k => by have := h.node k; omega) (fun k => by have := h.link k; omega)
    rwa [eqY_self] at this
  obtain ⟨an, cn, rfl, _⟩ := hN.form
  obtain ⟨al, cl, rfl, _⟩ := hL.form
  obtain ⟨am, cm, rfl, _⟩ := hM.view
  obtain ⟨ak, ck, rfl, _⟩ := hK'.view
  obtain ⟨gr, hgr⟩ : ∃ gr, gr = greatB ns ls := ⟨_, rfl⟩
  rw [← hgr] at HG
  have HSm : Hid (gr = false → Small ns ls) := fun h => small_of bN bL (hgr ▸ h)
  have HSt : Hid (gr = false → (slotsY ns ls).length ≤ 10000) := fun h => slots_small bN bL (hgr ▸ h)
  have HL1 : Hid (Small ns ls → (wordsE (avE a b c ns ls mw lw x y) ns.length (fun k => busyP ns x y k || hasW mw k)).length ≤ 100000) := fun h => words_len _ (by have := h.nodes; omega)
  have HL2 : Hid (Small ns ls → (wordsE (avE a b c ns ls mw lw x y) ls.length (fun k => busyP ls x y k || hasW lw k)).length ≤ 100000) := fun h => words_len _ (by have := h.links; omega)
  clear hW hN hL bN bL hgr hM hK' hTab
  generalize wordsE (avE a b c ns ls mw lw x y) ns.length (fun k => busyP ns x y k || hasW mw k) = Z1 at *
  generalize wordsE (avE a b c ns ls mw lw x y) ls.length (fun k => busyP ls x y k || hasW lw k) = Z2 at *
  generalize avE a b c ns ls mw lw x y = ea at *
  generalize hoB a b c bx t0 t1 t2 mw lw = rb at *
  generalize hoE a b c bx t0 t1 t2 mw lw = eh at *
  generalize soV a b c ns ls bx t0 t1 t2 mw lw f long = V at *
  generalize soE a b c ns ls bx t0 t1 t2 mw lw f long = es at *
  go_enter Tryz.func4, Tryz.ntmps4
  go_wp2_with fail
  rw [HW.out]
  refine (HG.out _ hT0).mono ?_
  rintro e w1 ⟨rfl, hB1⟩
  have hT1 := then_below hT0 hB1
  clear hB1 hT0
  cases gr
  case true =>
    clear HSm HSt HL1 HL2 HTw HA1 HA2 HH1 HH2 HS1 HS2 HSm2
    generalize mw.length = mn at *
    generalize lw.length = ln at *
    generalize ns.length = nn at *
    generalize ls.length = ll at *
    go_wp2
    go_ret
    exact ⟨rfl, then_below hB hT1⟩
  case false =>
    have HSM : Hid (Small ns ls) := HSm.out rfl
    have HST : Hid ((slotsY ns ls).length ≤ 10000) := HSt.out rfl
    have HM1 : Hid (Z1.length ≤ 100000) := HL1.out HSM.out
    have HM2 : Hid (Z2.length ≤ 100000) := HL2.out HSM.out
    have hl1 := HA2.out HSM.out
    have hl2 := HS1.out HST.out
    have hl3 := HS2.out HSM.out HST.out
    have KA2 : Hid (∀ w1, Below W.heap.size W w1 → Calls Tryz.prog 17 #[Y5 a b c (.slice an ns.length cn) (.slice al ls.length cl), .slice am mw.length cm, .slice ak lw.length ck, S2 x y] w1 fun e W' => ∃ r1 r2, e = .returned (.tuple #[r1, r2, I ea]) ∧ SetR W' w1.heap.size r1 Z1 ∧ SetR W' w1.heap.size r2 Z2 ∧ Below w1.heap.size w1 W') := hl1
    have KS1 : Hid (∀ w1 u v, Below W.heap.size W w1 → Yl w1 u ns → Yl w1 v ls → Calls Tryz.prog 10 #[Y5 a b c u v, P9 bx t0 t1 t2, .slice am mw.length cm, .slice ak lw.length ck, I f, I long] w1 fun e W' => e = .returned (.tuple #[I V, I es]) ∧ Below w1.heap.size w1 W') := hl2
    have KS2 : Hid (∀ w1, Below W.heap.size W w1 → Calls Tryz.prog 19 #[Y5 a b c (.slice an ns.length cn) (.slice al ls.length cl), P9 bx t0 t1 t2, .slice am mw.length cm, .slice ak lw.length ck, I f, I long] w1 fun e W' => e = .returned (.tuple #[I V, I es]) ∧ Below w1.heap.size w1 W') := hl3
    clear HSm HSt HL1 HL2 hl1 hl2 hl3 HA2 HS1 HS2 HST
    generalize mw.length = mn at *
    generalize lw.length = ln at *
    by_cases q0 : 100 < (mn : Int)
    · have d0 : decide (100 < (mn : Int)) = true := decide_eq_true q0
      clear HM1 HM2 HTw HA1 KA2 HH1 HH2 KS1 KS2 HSm2 q0
      go_wp2
      go_ret
      exact ⟨rfl, then_below hB hT1⟩
    have d0 : decide (100 < (mn : Int)) = false := decide_eq_false q0
    by_cases q1 : 100 < (ln : Int)
    · have d1 : decide (100 < (ln : Int)) = true := decide_eq_true q1
      clear HM1 HM2 HTw HA1 KA2 HH1 HH2 KS1 KS2 HSm2 q0 q1
      go_wp2
      go_ret
      exact ⟨rfl, then_below hB hT1⟩
    have d1 : decide (100 < (ln : Int)) = false := decide_eq_false q1
    clear q0 q1
    obtain ⟨p0, p1, p2, p3, p4, hz⟩ := hK.yard hT1
    go_wp2_with fail
    refine (HTw.out HSM.out _ hT1).mono ?_
    rintro e w2 ⟨u1, v1, rfl, hu, hv, hB2⟩
    clear p0 p1 p2 p3 p4 hz d0 d1
    have hT2 := then_below hT1 hB2
    obtain ⟨s0, s1, hzs⟩ := hS.pair hT2
    obtain ⟨ao1, n1, c1, rfl⟩ := hu.slice
    obtain ⟨ao2, n2, c2, rfl⟩ := hv.slice
    obtain ⟨XA, hXA, hBA, hA⟩ := one_start w2 (K5 a b c (.slice ao1 n1 c1) (.slice ao2 n2 c2)) 26
    have HXA : Hid (w2.alloc (.cells (K5 a b c (.slice ao1 n1 c1) (.slice ao2 n2 c2)) 26) = XA) := hXA
    have hTA := then_below hT2 hBA
    have hUA := Below.refl XA.heap.size XA
    clear hXA
    have NU : Hid (Yl XA (.slice ao1 n1 c1) ns) := (hu.later hBA).yl
    have NV : Hid (Yl XA (.slice ao2 n2 c2) ls) := (hv.later hBA).yl
    clear hu hv hB2 hT1 hT2 hBA
    go_wp2_with fail
    rw [HXA.out]
    refine (HA1.out _ _ _ hTA NU.out NV.out).mono ?_
    rintro e w3 ⟨r1, r2, rfl, hr1, hr2, hB3⟩
    have R1 : Hid (Wds w3 r1 Z1) := hr1.wds
    have R2 : Hid (Wds w3 r2 Z2) := hr2.wds
    clear hr1 hr2 s0 s1 hzs HXA
    have hT3 := then_below hTA hB3
    have hU3 := then_below hUA hB3
    replace NU : Hid (Yl w3 (.slice ao1 n1 c1) ns) := NU.out.later hB3
    replace NV : Hid (Yl w3 (.slice ao2 n2 c2) ls) := NV.out.later hB3
    clear hTA hUA hB3
    obtain ⟨p0, p1, p2, p3, p4, hz⟩ := hK.yard hT3
    obtain ⟨s0, s1, hzs⟩ := hS.pair hT3
    go_wp2_with fail
    refine (KA2.out _ hT3).mono ?_
    rintro e w4 ⟨r3, r4, rfl, hr3, hr4, hB4⟩
    have R3 : Hid (Wds w4 r3 Z1) := hr3.wds
    have R4 : Hid (Wds w4 r4 Z2) := hr4.wds
    replace R1 : Hid (Wds w4 r1 Z1) := R1.out.later hB4
    replace R2 : Hid (Wds w4 r2 Z2) := R2.out.later hB4
    replace NU : Hid (Yl w4 (.slice ao1 n1 c1) ns) := NU.out.later hB4
    replace NV : Hid (Yl w4 (.slice ao2 n2 c2) ls) := NV.out.later hB4
    clear hr3 hr4 p0 p1 p2 p3 p4 hz s0 s1 hzs
    have hT4 := then_below hT3 hB4
    have hU4 := then_below hU3 hB4
    clear hT3 hU3 hB4
    obtain ⟨a0, a1, a2, a3, a4, hza⟩ := hA.yard hU4
    obtain ⟨⟨x0, x1, x2⟩, ⟨x3, x4, x5⟩, ⟨x6, x7, x8⟩, hz1⟩ := hP.nine hT4
    go_wp2_with fail
    refine (HH1.out _ hT4).mono ?_
    rintro e w5 ⟨rfl, hB5⟩
    clear a0 a1 a2 a3 a4 hza x0 x1 x2 x3 x4 x5 x6 x7 x8 hz1
    replace R1 : Hid (Wds w5 r1 Z1) := R1.out.later hB5
    replace R2 : Hid (Wds w5 r2 Z2) := R2.out.later hB5
    replace R3 : Hid (Wds w5 r3 Z1) := R3.out.later hB5
    replace R4 : Hid (Wds w5 r4 Z2) := R4.out.later hB5
    replace NU : Hid (Yl w5 (.slice ao1 n1 c1) ns) := NU.out.later hB5
    replace NV : Hid (Yl w5 (.slice ao2 n2 c2) ls) := NV.out.later hB5
    have hT5 := then_below hT4 hB5
    have hU5 := then_below hU4 hB5
    clear hT4 hU4 hB5
    obtain ⟨p0, p1, p2, p3, p4, hz⟩ := hK.yard hT5
    obtain ⟨⟨x0, x1, x2⟩, ⟨x3, x4, x5⟩, ⟨x6, x7, x8⟩, hz1⟩ := hP.nine hT5
    go_wp2_with fail
    refine (HH2.out _ hT5).mono ?_
    rintro e w6 ⟨rfl, hB6⟩
    clear p0 p1 p2 p3 p4 hz x0 x1 x2 x3 x4 x5 x6 x7 x8 hz1
    replace R1 : Hid (Wds w6 r1 Z1) := R1.out.later hB6
    replace R2 : Hid (Wds w6 r2 Z2) := R2.out.later hB6
    replace R3 : Hid (Wds w6 r3 Z1) := R3.out.later hB6
    replace R4 : Hid (Wds w6 r4 Z2) := R4.out.later hB6
    replace NU : Hid (Yl w6 (.slice ao1 n1 c1) ns) := NU.out.later hB6
    replace NV : Hid (Yl w6 (.slice ao2 n2 c2) ls) := NV.out.later hB6
    have hT6 := then_below hT5 hB6
    have hU6 := then_below hU5 hB6
    clear hT5 hU5 hB6
    obtain ⟨a0, a1, a2, a3, a4, hza⟩ := hA.yard hU6
    obtain ⟨⟨x0, x1, x2⟩, ⟨x3, x4, x5⟩, ⟨x6, x7, x8⟩, hz1⟩ := hP.nine hT6
    go_wp2_with fail
    refine (KS1.out _ _ _ hT6 NU.out NV.out).mono ?_
    rintro e w7 ⟨rfl, hB7⟩
    clear a0 a1 a2 a3 a4 hza x0 x1 x2 x3 x4 x5 x6 x7 x8 hz1
    replace R1 : Hid (Wds w7 r1 Z1) := R1.out.later hB7
    replace R2 : Hid (Wds w7 r2 Z2) := R2.out.later hB7
    replace R3 : Hid (Wds w7 r3 Z1) := R3.out.later hB7
    replace R4 : Hid (Wds w7 r4 Z2) := R4.out.later hB7
    replace NU : Hid (Yl w7 (.slice ao1 n1 c1) ns) := NU.out.later hB7
    replace NV : Hid (Yl w7 (.slice ao2 n2 c2) ls) := NV.out.later hB7
    have hT7 := then_below hT6 hB7
    have hU7 := then_below hU6 hB7
    clear hT6 hU6 hB7
    obtain ⟨p0, p1, p2, p3, p4, hz⟩ := hK.yard hT7
    obtain ⟨⟨x0, x1, x2⟩, ⟨x3, x4, x5⟩, ⟨x6, x7, x8⟩, hz1⟩ := hP.nine hT7
    go_wp2_with fail
    refine (KS2.out _ hT7).mono ?_
    rintro e w8 ⟨rfl, hB8⟩
    clear p0 p1 p2 p3 p4 hz x0 x1 x2 x3 x4 x5 x6 x7 x8 hz1 HA1 KA2 HH1 HH2 KS1 KS2
    replace R1 : Hid (Wds w8 r1 Z1) := R1.out.later hB8
    replace R2 : Hid (Wds w8 r2 Z2) := R2.out.later hB8
    replace R3 : Hid (Wds w8 r3 Z1) := R3.out.later hB8
    replace R4 : Hid (Wds w8 r4 Z2) := R4.out.later hB8
    replace NU : Hid (Yl w8 (.slice ao1 n1 c1) ns) := NU.out.later hB8
    replace NV : Hid (Yl w8 (.slice ao2 n2 c2) ls) := NV.out.later hB8
    have hT8 := then_below hT7 hB8
    have hU8 := then_below hU7 hB8
    clear hT7 hU7 hB8
    have KM1 : Hid (Calls Tryz.prog 14 #[r1, r3] w8 fun e W' => e = .returned (.bool true) ∧ Below w8.heap.size w8 W') := by
      have := sameS_calls w8 R1.out R3.out HM1.out
      rwa [decide_eq_true rfl] at this
    go_wp2_with fail
    refine KM1.out.mono ?_
    rintro e w9 ⟨rfl, hB9⟩
    clear KM1
    replace R2 : Hid (Wds w9 r2 Z2) := R2.out.later hB9
    replace R4 : Hid (Wds w9 r4 Z2) := R4.out.later hB9
    replace NU : Hid (Yl w9 (.slice ao1 n1 c1) ns) := NU.out.later hB9
    replace NV : Hid (Yl w9 (.slice ao2 n2 c2) ls) := NV.out.later hB9
    have hT9 := then_below hT8 hB9
    have hU9 := then_below hU8 hB9
    clear hT8 hU8 hB9
    have KM2 : Hid (Calls Tryz.prog 14 #[r2, r4] w9 fun e W' => e = .returned (.bool true) ∧ Below w9.heap.size w9 W') := by
      have := sameS_calls w9 R2.out R4.out HM2.out
      rwa [decide_eq_true rfl] at this
    go_wp2_with fail
    refine KM2.out.mono ?_
    rintro e w10 ⟨rfl, hB10⟩
    clear KM2
    replace NU : Hid (Yl w10 (.slice ao1 n1 c1) ns) := NU.out.later hB10
    replace NV : Hid (Yl w10 (.slice ao2 n2 c2) ls) := NV.out.later hB10
    have hT10 := then_below hT9 hB10
    have hU10 := then_below hU9 hB10
    clear hT9 hU9 hB10
    obtain ⟨p0, p1, p2, p3, p4, hz⟩ := hK.yard hT10
    obtain ⟨a0, a1, a2, a3, a4, hza⟩ := hA.yard hU10
    go_wp2_with fail
    refine (HSm2.out HSM.out _ _ _ hT10 NU.out NV.out).mono ?_
    rintro e w11 ⟨rfl, hB11⟩
    clear p0 p1 p2 p3 p4 hz a0 a1 a2 a3 a4 hza
    go_wp2
    go_ret
    exact ⟨rfl, then_below hB (then_below hT10 hB11)⟩
end Go.Proofs.YtldcagjnngkabaaGreatDoor

/-
  How a place among a statement's arguments is opened: a box's six whole numbers, and three tori.
-/
namespace Go.Proofs.YtldcagjnngkabaaGreatDoor
open Go.ChangeShapes Go.WideShapes Go.ChangeAt Go.RowKit

theorem list9 {α : Type} (l : List α) (h : (⟨l⟩ : Array α).size = 9) : ∃ a b c d e f g i j, l = [a, b, c, d, e, f, g, i, j] := by
  match l, h with
  | [a, b, c, d, e, f, g, i, j], _ => exact ⟨a, b, c, d, e, f, g, i, j, rfl⟩

set_option maxRecDepth 100000 in
theorem open_place {w : World} {H : Type} {enc : TypeId × Value → H} {r : Reach} {b0 base : Nat} {spare : Nat → Bool} {held : Bool} {v : Value} {d : DataW H} {p : List MemPlace}
    (hv : Value.okWide Tryz.prog w r b0 43 v) (h : DataW.Trod enc Tryz.prog w base spare held 43 v d p) : ∃ (b : Bx) (t0 t1 t2 : Bool), v = P9 b t0 t1 t2 := by
  obtain ⟨f0, f1, hu, t0, o0, t1, o1⟩ : ∃ f0 f1, Tryz.prog.underlying 43 = some (.struct #[f0, f1]) ∧ f0.type = 40 ∧ f0.offset = 0 ∧ f1.type = 41 ∧ f1.offset = 6 := ⟨_, _, rfl, rfl, rfl, rfl, rfl⟩
  obtain ⟨s0, s1, hs, q0, r0, q1, r1⟩ : ∃ f0 f1, Tryz.prog.underlying 40 = some (.struct #[f0, f1]) ∧ f0.type = 22 ∧ f0.offset = 0 ∧ f1.type = 22 ∧ f1.offset = 3 := ⟨_, _, rfl, rfl, rfl, rfl, rfl⟩
  obtain ⟨cs, rfl, hsz, _⟩ : ∃ cs, v = .agg cs ∧ cs.size = Tryz.prog.cellsOf 43 ∧ Row.okWide Tryz.prog w r b0 43 cs := by
    simpa [Value.okWide, hu] using hv
  have hct : Tryz.prog.cellsOf 43 = 9 := by kernel_rfl
  rw [hct] at hsz
  obtain ⟨l⟩ := cs
  obtain ⟨c0, c1, c2, c3, c4, c5, c6, c7, c8, rfl⟩ := list9 l hsz
  obtain ⟨fuel, hf⟩ := h
  obtain ⟨x, y, n, _, _, h0, h1⟩ := trod_struct2 hu hf
  have hc6 : Tryz.prog.cellsOf 40 = 6 := by kernel_rfl
  have hc3 : Tryz.prog.cellsOf 22 = 3 := by kernel_rfl
  have hc3' : Tryz.prog.cellsOf 41 = 3 := by kernel_rfl
  have hc1 : Tryz.prog.cellsOf 3 = 1 := by kernel_rfl
  have hc1' : Tryz.prog.cellsOf 4 = 1 := by kernel_rfl
  rw [t0, o0, hc6] at h0
  rw [t1, o1, hc3'] at h1
  have h0 : DataW.trod enc Tryz.prog w base spare held n 40 [c0, c1, c2, c3, c4, c5] = some x := h0
  have h1 : DataW.trod enc Tryz.prog w base spare held n 41 [c6, c7, c8] = some y := h1
  obtain ⟨x', y', n', _, _, h2, h3⟩ := trod_struct2 hs h0
  rw [q0, r0, hc3] at h2
  rw [q1, r1, hc3] at h3
  have h2 : DataW.trod enc Tryz.prog w base spare held n' 22 [c0, c1, c2] = some x' := h2
  have h3 : DataW.trod enc Tryz.prog w base spare held n' 22 [c3, c4, c5] = some y' := h3
  obtain ⟨_, _, _, m, _, g0, g1, g2⟩ := trod_array3 Tryz.underlying22 hc1 h2
  obtain ⟨_, _, _, m', _, g3, g4, g5⟩ := trod_array3 Tryz.underlying22 hc1 h3
  obtain ⟨_, _, _, m'', _, g6, g7, g8⟩ := trod_array3 Tryz.underlying41 hc1' h1
  obtain ⟨x0, e0, _, _⟩ := DataW.trod_int Tryz.underlying3 g0
  obtain ⟨x1, e1, _, _⟩ := DataW.trod_int Tryz.underlying3 g1
  obtain ⟨x2, e2, _, _⟩ := DataW.trod_int Tryz.underlying3 g2
  obtain ⟨x3, e3, _, _⟩ := DataW.trod_int Tryz.underlying3 g3
  obtain ⟨x4, e4, _, _⟩ := DataW.trod_int Tryz.underlying3 g4
  obtain ⟨x5, e5, _, _⟩ := DataW.trod_int Tryz.underlying3 g5
  obtain ⟨y6, e6, _⟩ := DataW.trod_bool Tryz.underlying4 g6
  obtain ⟨y7, e7, _⟩ := DataW.trod_bool Tryz.underlying4 g7
  obtain ⟨y8, e8, _⟩ := DataW.trod_bool Tryz.underlying4 g8
  simp at e0 e1 e2 e3 e4 e5 e6 e7 e8
  subst e0 e1 e2 e3 e4 e5 e6 e7 e8
  exact ⟨⟨x0, x1, x2, x3, x4, x5⟩, y6, y7, y8, rfl⟩

end Go.Proofs.YtldcagjnngkabaaGreatDoor

/-
  What the statements that list math/bits' table ask ahead of a walk: the table lies in its variable, as the condition says.
-/
namespace Go.Proofs.YtldcagjnngkabaaGreatDoor
open Go Go.ChangeShapes Go.WideShapes Go.ChangeAt Go.RowKit

def tabLaid : List (String × DataW Unit) := [("math/bits.deBruijn64tab", Rows.laid_math_bits_deBruijn64tab)]

theorem tab_named : Tryz.prog.globalNamed "math/bits.deBruijn64tab" = some 0 := by kernel_rfl
theorem tab_type : (Tryz.prog.globals[0]?).map (·.type) = some 237 := by kernel_rfl

/-- The heap that the program's own start leaves meets the condition. -/
theorem door_met (os : Os) (args : Array Value) : laidMetH Tryz.prog tabLaid ((World.doorLaid Tryz.prog 14 os).forCall (fun _ _ => 0) ⟨#[], args, []⟩).memory :=
  laidMetH_of_parts3 (fuel := 8) (laidMet_of_run' 8 (by kernel_rfl) (by kernel_rfl)) (by kernel_rfl) (by kernel_rfl)

theorem tab_datum : (Rows.laid_math_bits_deBruijn64tab : DataW Unit) = Lib.tabData .u8 (ofN Lib.deBruijn64tab) := rfl

theorem tab_of {W : World} (h : laidMetH Tryz.prog tabLaid W) : TabOk W := by
  rw [MakeChecks.laidMetH_plain _ _ _ (by kernel_rfl)] at h
  unfold tabLaid at h
  rw [tab_datum] at h
  have hT := Lib.tabIs_of_head tab_named tab_type Tryz.underlying237 Tryz.underlying5 (by kernel_rfl) (by kernel_rfl) h
  intro j hj
  have := hT.cell tab_named j (by rw [ofN_len]; exact hj)
  rw [this, ofN_get]

/-- No parameter's type asks for a stand-in. -/
theorem noS_stand_in (ts : Array TypeId) (h : (ts.toList.all fun t => !Tryz.prog.wantsStandIn t) = true) (j : Nat) (t : TypeId) (ht : ts[j]? = some t) : Tryz.prog.wantsStandIn t = false := by
  have hm : t ∈ ts.toList := by
    obtain ⟨hlt, he⟩ := Array.getElem?_eq_some_iff.1 ht
    rw [← he]
    exact Array.getElem_mem_toList hlt
  have := List.all_eq_true.1 h t hm
  simpa using this

end Go.Proofs.YtldcagjnngkabaaGreatDoor

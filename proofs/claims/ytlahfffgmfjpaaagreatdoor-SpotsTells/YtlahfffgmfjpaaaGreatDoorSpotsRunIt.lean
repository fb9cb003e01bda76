/-
  spots.runs hands out a place's runs, axis by axis. (Written by tools/gen/spots_runs.py.)
-/
import Derived.Test.YtlahfffgmfjpaaaGreatDoorPart18
import Derived.Test.YtlahfffgmfjpaaaGreatDoorPart17
import Derived.Test.YtlahfffgmfjpaaaGreatDoorPart19
namespace Go.Proofs.YtlahfffgmfjpaaaGreatDoor
open Go Go.RowKit Go.Shelf

attribute [local go_sem] Oper.semAt_some ext_const ixI0 ixI1 ixI2

abbrev encP (p : Pl) : Array Value := #[PV p]
set_option maxRecDepth 100000 in
theorem runs_calls (d0 d1 d2 : Int) (p : Pl) (w : World) : Calls Tryz.prog 44 #[A3 d0 d1 d2, PV p] w fun e W' => e = .returned (.func (.func 70) #[] #[.pointer (some ⟨w.heap.size + 1, 0, none⟩), .pointer (some ⟨w.heap.size, 0, none⟩)]) ∧ W' = (w.alloc (.cells #[I d0, I d1, I d2] 23)).alloc (.cells (C9 p.1 p.2.1 p.2.2.1 p.2.2.2) 32) := by
  obtain ⟨b, t0, t1, t2⟩ := p
  go_enter Tryz.func44, Tryz.ntmps44
  go_wp2
  go_ret
  exact ⟨by simp, rfl⟩


/-- What the iterator keeps for itself: five boxes. -/
structure RunPv (Bp Bd By B4 B5 : Nat) (cp cd cy c4 c5 : Array Value) (W : World) : Prop where
  p : Blk W Bp 32 cp
  d : Blk W Bd 23 cd
  y : Blk W By 87 cy
  i : Blk W B4 3 c4
  s : Blk W B5 3 c5
section
variable {Bp Bd By B4 B5 : Nat} {cp cd cy c4 c5 : Array Value} {W W' : World}
theorem RunPv.kept (h : RunPv Bp Bd By B4 B5 cp cd cy c4 c5 W) {row : Option Nat} (hg : W.grownBy W' row) (hr : ∀ r, row = some r → ∃ o : Obj, W.heap[r]? = some o ∧ o.isCells = false) : RunPv Bp Bd By B4 B5 cp cd cy c4 c5 W' :=
  ⟨h.p.kept hg hr, h.d.kept hg hr, h.y.kept hg hr, h.i.kept hg hr, h.s.kept hg hr⟩
theorem RunPv.later (h : RunPv Bp Bd By B4 B5 cp cd cy c4 c5 W) (hb : Below W.heap.size W W') : RunPv Bp Bd By B4 B5 cp cd cy c4 c5 W' := ⟨h.p.later hb, h.d.later hb, h.y.later hb, h.i.later hb, h.s.later hb⟩
theorem RunPv.keep (h : RunPv Bp Bd By B4 B5 cp cd cy c4 c5 W) (hk : KeepT okAll W W') : RunPv Bp Bd By B4 B5 cp cd cy c4 c5 W' := ⟨hk.blk h.p rfl, hk.blk h.d rfl, hk.blk h.y rfl, hk.blk h.i rfl, hk.blk h.s rfl⟩
end

theorem runs_next0 {d0 d1 d2 : Int} {p : Pl} {pre : List Tri} {o : Tri} (h : pre ++ [o] <+: acrossL p.1 0) : (([] : List Pl) ++ pre.map (runP d0 d1 d2 p 0)) ++ [runP d0 d1 d2 p 0 o] <+: runsL d0 d1 d2 p := by
  have h1 := map_pre (runP d0 d1 d2 p 0) h
  rw [List.map_append, List.map_singleton] at h1
  rw [List.nil_append]
  exact h1.trans (List.prefix_append _ _)
theorem runs_next1 {d0 d1 d2 : Int} {p : Pl} {pre : List Tri} {o : Tri} (h : pre ++ [o] <+: acrossL p.1 1) : (runsK d0 d1 d2 p 0 ++ pre.map (runP d0 d1 d2 p 1)) ++ [runP d0 d1 d2 p 1 o] <+: runsL d0 d1 d2 p := by
  have h1 := map_pre (runP d0 d1 d2 p 1) h
  rw [List.map_append, List.map_singleton] at h1
  rw [List.append_assoc]
  exact pre_append (h1.trans (List.prefix_append _ _))
theorem runs_next2 {d0 d1 d2 : Int} {p : Pl} {pre : List Tri} {o : Tri} (h : pre ++ [o] <+: acrossL p.1 2) : ((runsK d0 d1 d2 p 0 ++ runsK d0 d1 d2 p 1) ++ pre.map (runP d0 d1 d2 p 2)) ++ [runP d0 d1 d2 p 2 o] <+: runsL d0 d1 d2 p := by
  have h1 := map_pre (runP d0 d1 d2 p 2) h
  rw [List.map_append, List.map_singleton] at h1
  rw [List.append_assoc, List.append_assoc]
  exact pre_append (pre_append h1)

set_option maxRecDepth 100000 in
set_option maxHeartbeats 32000000 in
theorem runs_seq {d0 d1 d2 : Int} {b : Bx} {t0 t1 t2 : Bool} (hm : mayD d0 d1 d2) (hp : mayL d0 d1 d2 (b, t0, t1, t2) = true) {Bp Bd : Nat} (w : World) (hBp : Blk w Bp 32 (C9 b t0 t1 t2)) (hBd : Blk w Bd 23 #[I d0, I d1, I d2]) :
    SeqO Tryz.prog 70 #[.pointer (some ⟨Bp, 0, none⟩), .pointer (some ⟨Bd, 0, none⟩)] encP okAll (runsL d0 d1 d2 (b, t0, t1, t2)) w := fun l J Jx W hW hJ hJx hY h0 => by
  have mixed : Tryz.prog.follows .mixedOrders = true := by kernel_rfl
  have HY : Hid (∀ (pre : List Pl) (x : Pl) (W1 : World), pre ++ [x] <+: runsL d0 d1 d2 (b, t0, t1, t2) → J pre W1 → YieldAt Fence.wide 0 Tryz.prog l (encP x) W1 fun e W' => (e = .returned (.bool true) ∧ J (pre ++ [x]) W' ∧ KeepT okAll W1 W' ∧ KeepsFrom W.heap.size W1 W') ∨ (e = .returned (.bool false) ∧ Jx (pre ++ [x]) W' ∧ KeepsFrom W.heap.size W1 W')) := hY
  have kp0 := hBp.later hW
  have kd0 := hBd.later hW
  have HO : Hid (∀ (a' b' c' : Int) (w1 : World), Calls Tryz.prog 71 #[A3 a' b' c'] w1 fun e W' => e = .returned (.func (.func 96) #[] #[.pointer (some ⟨w1.heap.size, 0, none⟩)]) ∧ W' = w1.alloc (.cells #[I a', I b', I c'] 22)) := fun a' b' c' w1 => offsets_calls a' b' c' w1
  have HP : Hid (mayL d0 d1 d2 (b, t0, t1, t2) = true) := hp
  have HD : Hid (mayD d0 d1 d2) := hm
  have HJ : Hid (OwnFrom W.heap.size J ∧ OwnFrom W.heap.size Jx) := ⟨hJ, hJx⟩
  obtain ⟨⟨q0, q1, q2⟩, _⟩ := mayL_iff.1 hp
  have HW : Hid (∀ (k : Nat) (o : Tri) (w1 : World), k < 3 → o ∈ acrossL b k → Calls Tryz.prog 72 #[A3 d0 d1 d2, A3 b.x b.y b.z, A3 o.1 o.2.1 o.2.2] w1 fun e W' => e = .returned (A3 (ringO d0 b.x o.1) (ringO d1 b.y o.2.1) (ringO d2 b.z o.2.2)) ∧ Below w1.heap.size w1 W') := fun k o w1 hk ho => by
    have hi := (across_in hp hk).1 ho
    refine onward_calls w1 hm ⟨q0.2, q1.2, q2.2⟩ ?_
    simp only [mayS] at q0 q1 q2
    match k, hk with
    | 0, _ => simp at hi; simp only [inD]; omega
    | 1, _ => simp at hi; simp only [inD]; omega
    | 2, _ => simp at hi; simp only [inD]; omega
  have HS : Hid ((((b.a.toNat : Nat) : Int) = b.a ∧ b.a.toNat ≤ 16) ∧ (((b.b.toNat : Nat) : Int) = b.b ∧ b.b.toNat ≤ 16) ∧ (((b.c.toNat : Nat) : Int) = b.c ∧ b.c.toNat ≤ 16)) := by
    simp only [mayS] at q0 q1 q2
    obtain ⟨⟨_, u0⟩, ⟨_, u1⟩, _, u2⟩ := hm
    refine ⟨⟨?_, ?_⟩, ⟨?_, ?_⟩, ?_, ?_⟩ <;> omega
  have HR : Hid (runsL d0 d1 d2 (b, t0, t1, t2) = runsK d0 d1 d2 (b, t0, t1, t2) 0 ++ (runsK d0 d1 d2 (b, t0, t1, t2) 1 ++ runsK d0 d1 d2 (b, t0, t1, t2) 2)) := rfl
  clear hY hBp hBd hm hp hJ hJx q0 q1 q2
  refine (callsIn_wide (n := 3)).1 ?_
  refine callsIn_of_wp_marks Tryz.func70 rfl trivial ?_ rfl
  simp only [Tryz.ntmps70, List.size_toArray, List.length_cons, List.length_nil, Nat.reduceAdd, Nat.reduceSub, Array.replicate_succ, Array.replicate_zero, List.push_toArray, List.append_toArray, List.nil_append, List.cons_append]
  obtain ⟨⟨x0, x1, x2⟩, ⟨x3, x4, x5⟩, ⟨x6, x7, x8⟩, hz1⟩ := kp0.nine (Below.refl _ _)
  gi_wp2
  refine wpIn_loop_rounds 4 ?_
  obtain ⟨U, hU⟩ : ∃ U, U = W.alloc (.cells #[.func (.yield l) #[] #[]] 87) := ⟨_, rfl⟩
  have hbU : Below W.heap.size W U := by rw [hU]; exact (Below.refl _ W).alloc (Nat.le_refl _) _
  have ky : Blk U W.heap.size 87 #[.func (.yield l) #[] #[]] := by rw [hU]; exact Blk.new W _ _
  rw [← hU]
  have kp := kp0.later hbU
  have kd := kd0.later hbU
  have mk : MarkB W.heap.size [] U := MarkB.nil _ _
  have hJ : J [] U := own_below HJ.out.1 h0 hbU
  have HWU : Hid (W.heap.size ≤ U.heap.size) := hbU.size
  clear x0 x1 x2 x3 x4 x5 x6 x7 x8 hz1 kp0 kd0 hbU hU h0
  generalize W.heap.size = Wn at *
  rw [roundsIn_succ]
  obtain ⟨⟨x0, x1, x2⟩, ⟨x3, x4, x5⟩, ⟨x6, x7, x8⟩, hz1⟩ := kp.nine (Below.refl _ _)
  have hz2 : Bp < U.heap.size + 1 := by omega
  have hz3 : Bp < U.heap.size + 1 + 1 := by omega
  have hz4 : Bp < U.heap.size + 1 + 1 + 1 := by omega
  gi_wp2_with fail
  refine ⟨trivial, (callsIn_wide.2 (HO.out _ _ _ _)).mono ?_⟩
  rintro e w1 ⟨rfl, rfl⟩
  gi_wp2_with fail
  obtain ⟨U1, hU⟩ : ∃ U1, U1 = ((((U.alloc (.cells #[I 0] 3)).alloc (.cells #[I b.a] 3)).alloc (.cells #[I 1, I b.b, I b.c] 22)).alloc (.cells #[I 1, I b.b, I b.c] 22)) := ⟨_, rfl⟩
  have hbU : Below U.heap.size U U1 := by
    rw [hU]
    exact ((((Below.refl _ U).alloc (Nat.le_refl _) _).alloc (by simp) _).alloc (by simp; omega) _).alloc (by simp; omega) _
  have ki : Blk U1 U.heap.size 3 #[I 0] := by
    rw [hU]
    exact ((((Blk.new U _ _).alloc _).alloc _).alloc _)
  have ks : Blk U1 (U.heap.size + 1) 3 #[I b.a] := by
    rw [hU]
    have := ((Blk.new (U.alloc (.cells #[I 0] 3)) 3 #[I b.a]).alloc (.cells #[I 1, I b.b, I b.c] 22)).alloc (.cells #[I 1, I b.b, I b.c] 22)
    simpa using this
  have ko : Blk U1 (U.heap.size + 1 + 1 + 1) 22 #[I 1, I b.b, I b.c] := by
    rw [hU]
    have := Blk.new (((U.alloc (.cells #[I 0] 3)).alloc (.cells #[I b.a] 3)).alloc (.cells #[I 1, I b.b, I b.c] 22)) 22 #[I 1, I b.b, I b.c]
    simpa using this
  rw [← hU]
  have pv : RunPv Bp Bd Wn U.heap.size (U.heap.size + 1) (C9 b t0 t1 t2) #[I d0, I d1, I d2] #[.func (.yield l) #[] #[]] #[I 0] #[I b.a] U1 := ⟨kp.later hbU, kd.later hbU, ky.later hbU, ki, ks⟩
  have mk1 := mk.later hbU
  have hJ1 := own_below HJ.out.1 hJ hbU
  have HWU1 : Hid (Wn ≤ U1.heap.size) := Nat.le_trans HWU.out hbU.size
  clear x0 x1 x2 x3 x4 x5 x6 x7 x8 hz1 hz2 hz3 hz4 kp kd ky ki ks hbU hU hJ mk HWU
  have hsq : SeqO Tryz.prog 96 #[.pointer (some ⟨U.heap.size + 1 + 1 + 1, 0, none⟩)] encT okAll (acrossL b 0) U1 := offsets_seq (a := 1) (b := b.b.toNat) (c := b.c.toNat) okAll rfl U1 (by
    have h := HS.out
    try rw [h.1.1]
    try rw [h.2.1.1]
    try rw [h.2.2.1]
    exact ko) (by omega) HS.out.2.1.2 HS.out.2.2.2
  clear ko
  generalize U.heap.size + 1 + 1 + 1 = BO at *
  generalize U.heap.size + 1 + 1 = B6 at *
  generalize U.heap.size + 1 = B5 at *
  generalize U.heap.size = B4 at *
  clear U
  have HM1 : Hid (MarkB Wn [] U1) := mk1
  have HML : Hid (∀ d ∈ ([] : List Nat), d < U1.heap.size) := fun d hd => mk1.lt hd
  clear mk1
  refine wpIn_rangeO rfl (enters_of Tryz.func96 (by kernel_rfl) rfl) hsq (Below.refl _ _) (fun _ => rfl)
    (fun pre V => (J (([] : List Pl) ++ pre.map (runP d0 d1 d2 (b, t0, t1, t2) 0)) V ∧ RunPv Bp Bd Wn B4 B5 (C9 b t0 t1 t2) #[I d0, I d1, I d2] #[.func (.yield l) #[] #[]] #[I 0] #[I b.a] V) ∧ MarkB Wn [] V)
    (fun c pre V => (c = .ret ∧ ∃ q, q <+: runsL d0 d1 d2 (b, t0, t1, t2) ∧ Jx q V) ∧ MarkB Wn [] V)
    (fun pre A A' row hs hgr hr => ⟨⟨own_mono HJ.out.1 HWU1.out _ A A' row hs.1.1 hgr hr, hs.1.2.kept hgr (fun r e => (hr r e).2)⟩, hs.2.grown HML.out hgr hr⟩)
    (fun c pre A A' row hs hgr hr => ⟨⟨hs.1.1, by obtain ⟨_, q, hq, hj⟩ := hs.1; exact ⟨q, hq, own_mono HJ.out.2 HWU1.out _ A A' row hj hgr hr⟩⟩, hs.2.grown HML.out hgr hr⟩)
    ⟨⟨by simpa using hJ1, pv⟩, HM1.out⟩
    (fun x a' V => ∃ Bf, a' = { tmps := #[.func (.yield l) #[] #[], .pointer (some ⟨Bp, 0, none⟩), .pointer (some ⟨Bd, 0, none⟩), .pointer (some ⟨Wn, 0, none⟩), .pointer (some ⟨B4, 0, none⟩), .pointer (some ⟨B5, 0, none⟩), .pointer (some ⟨B6, 0, none⟩), .pointer (some ⟨Bf, 0, none⟩), undef, .pointer (some ⟨Bp, 0, none⟩), .pointer (some ⟨Bp, 3, none⟩), .agg #[I b.a, I b.b, I b.c], .int .i64 0, .bool true, .int .i64 0, I b.a, .pointer (some ⟨Bp, 0, none⟩), .pointer (some ⟨Bp, 3, none⟩), .agg #[I b.a, I b.b, I b.c], .int .i64 0, .pointer (some ⟨B6, 0, none⟩), .agg #[I 1, I b.b, I b.c], .func (.func 96) #[] #[.pointer (some ⟨BO, 0, none⟩)], A3 x.1 x.2.1 x.2.2, undef, undef, undef, undef, undef, undef, undef, undef, undef, undef, undef, undef, undef, undef, undef, undef, undef, undef, undef, undef, undef, undef, undef, undef, undef, undef, undef, undef], defers := [] } ∧ Blk V Bf 22 #[I x.1, I x.2.1, I x.2.2])
    (fun x a' _ A0 A1 row hs hgr hr => by
      obtain ⟨Bf, e, hb⟩ := hs
      exact ⟨Bf, e, hb.kept hgr (fun r e => (hr r e).2)⟩) ?assign0 ?body0 ?done0 ?stop0
  case assign0 =>
    intro l2 pre x V K hI hK
    have hBa : Below V.heap.size V (V.alloc (.cells #[I x.1, I x.2.1, I x.2.2] 22)) := (Below.refl _ V).alloc (Nat.le_refl _) _
    gi_wp2
    exact hK _ _ ((keeps_below hBa).from _) (KeepT.below _ hBa) ⟨⟨own_below HJ.out.1 hI.1.1 hBa, hI.1.2.later hBa⟩, hI.2.later hBa⟩ ⟨_, rfl, Blk.new _ _ _⟩
  case body0 =>
    rintro l2 pre ⟨o0, o1, o2⟩ a' V hpre hl0 _ ⟨⟨hJ2, pv2⟩, hmk⟩ ⟨Bf, rfl, kf⟩
    dsimp only at kf ⊢
    have ho : (o0, o1, o2) ∈ acrossL b 0 := hpre.subset (by simp)
    have hrp : runP d0 d1 d2 (b, t0, t1, t2) 0 (o0, o1, o2) = (⟨ringO d0 b.x o0, ringO d1 b.y o1, ringO d2 b.z o2, b.a, 1, 1⟩, t0, false, false) := rfl
    have HN : Hid ((([] : List Pl) ++ pre.map (runP d0 d1 d2 (b, t0, t1, t2) 0)) ++ [(⟨ringO d0 b.x o0, ringO d1 b.y o1, ringO d2 b.z o2, b.a, 1, 1⟩, t0, false, false)] <+: runsL d0 d1 d2 (b, t0, t1, t2)) := by
      rw [← hrp]
      exact runs_next0 hpre
    have HE : Hid (([] : List Pl) ++ (pre ++ [(o0, o1, o2)]).map (runP d0 d1 d2 (b, t0, t1, t2) 0) = (([] : List Pl) ++ pre.map (runP d0 d1 d2 (b, t0, t1, t2) 0)) ++ [(⟨ringO d0 b.x o0, ringO d1 b.y o1, ringO d2 b.z o2, b.a, 1, 1⟩, t0, false, false)]) := by
      show _ = _
      rw [← hrp]; simp
    have HJ2 : Hid (J (([] : List Pl) ++ pre.map (runP d0 d1 d2 (b, t0, t1, t2) 0)) V) := hJ2
    have hon := HW.out 0 (o0, o1, o2)
    have HMk : Hid (MarkB Wn [] V) := hmk
    clear hpre hJ2 hmk hrp
    generalize ([] : List Pl) ++ pre.map (runP d0 d1 d2 (b, t0, t1, t2) 0) = dn at *
    dsimp only at hon
    generalize ringO d0 b.x o0 = r0 at *
    generalize ringO d1 b.y o1 = r1 at *
    generalize ringO d2 b.z o2 = r2 at *
    obtain ⟨⟨x0, x1, x2⟩, ⟨x3, x4, x5⟩, ⟨x6, x7, x8⟩, hz1⟩ := pv2.p.nine (Below.refl _ _)
    obtain ⟨y0, y1, y2, hz2⟩ := pv2.d.three (Below.refl _ _)
    obtain ⟨f0, f1, f2, hz3⟩ := kf.three (Below.refl _ _)
    gi_wp2_with fail
    obtain ⟨V1, hV1⟩ : ∃ V1, V1 = V.alloc (.cells (C9 ⟨0, 0, 0, 0, 0, 0⟩ false false false) 32) := ⟨_, rfl⟩
    have hb1 : Below V.heap.size V V1 := by rw [hV1]; exact (Below.refl _ V).alloc (Nat.le_refl _) _
    have k8 : Blk V1 V.heap.size 32 (C9 ⟨0, 0, 0, 0, 0, 0⟩ false false false) := by rw [hV1]; exact Blk.new V _ _
    rw [← hV1]
    refine ⟨trivial, rfl, (CallsIn.inRound l2 (callsIn_wide.2 (hon _ (by omega) ho))).mono ?_⟩
    rintro e w2 ⟨rfl, hT⟩
    have hb2 : Below V.heap.size V w2 := then_below hb1 hT
    have k82 := k8.later hT
    clear hV1 hT k8 hb1 hon x0 x1 x2 x3 x4 x5 x6 x7 x8 hz1 y0 y1 y2 hz2 f0 f1 f2 hz3 kf
    have pv3 := pv2.later hb2
    obtain ⟨B8, hB8⟩ : ∃ B8, B8 = V.heap.size := ⟨_, rfl⟩
    have HB8 : Hid (V.heap.size ≤ B8) := by show _ ≤ _; omega
    rw [← hB8] at k82 ⊢
    clear hB8
    have c4 := pv3.i.cell 0
    have c5 := pv3.s.cell 0
    have g8 := k82.frozen
    have hz8 := k82.lt
    have n4 : B4 ≠ B8 := fun e => by have h1 := pv2.i.lt; have h2 := HB8.out; omega
    have n5 : B5 ≠ B8 := fun e => by have h1 := pv2.s.lt; have h2 := HB8.out; omega
    have z0 := k82.cell 0
    have z1 := k82.cell 1
    have z2 := k82.cell 2
    have z3 := k82.cell 3
    have z4 := k82.cell 4
    have z5 := k82.cell 5
    simp at c4 c5 z0 z1 z2 z3 z4 z5
    gi_wp2_with fail
    obtain ⟨w3, hw3⟩ : ∃ w3, w3 = (((((((w2.setCell ⟨B8, 0, none⟩ (I r0)).setCell ⟨B8, 1, none⟩ (I r1)).setCell ⟨B8, 2, none⟩ (I r2)).setCell ⟨B8, 3, none⟩ (I 1)).setCell ⟨B8, 4, none⟩ (I 1)).setCell ⟨B8, 5, none⟩ (I 1)).setCell ⟨B8, 3, none⟩ (I b.a)) := ⟨_, rfl⟩
    have hb3 : Below V.heap.size V w3 := by
      rw [hw3]
      exact ((((((hb2.setCell (p := ⟨B8, 0, none⟩) HB8.out _).setCell (p := ⟨B8, 1, none⟩) HB8.out _).setCell (p := ⟨B8, 2, none⟩) HB8.out _).setCell (p := ⟨B8, 3, none⟩) HB8.out _).setCell (p := ⟨B8, 4, none⟩) HB8.out _).setCell (p := ⟨B8, 5, none⟩) HB8.out _).setCell (p := ⟨B8, 3, none⟩) HB8.out _
    have k83 : Blk w3 B8 32 #[I r0, I r1, I r2, I b.a, I 1, I 1, .bool false, .bool false, .bool false] := by
      rw [hw3]
      exact ((((((k82.set 0 _).set 1 _).set 2 _).set 3 _).set 4 _).set 5 _).set 3 _
    rw [← hw3]
    clear hw3 k82 hb2 pv3 c4 c5 g8 hz8 z0 z1 z2 z3 z4 z5
    have pv4 := pv2.later hb3
    have c4 : ∀ X : Ext w3, X.wd.cell? ⟨B4, 0, none⟩ = some (I 0) := fun X => (pv4.i.later X.le).cell 0
    have x6 : ∀ X : Ext w3, X.wd.cell? ⟨Bp, 6, none⟩ = some (.bool t0) := fun X => (pv4.p.later X.le).cell 6
    refine wpIn_region_tail2 7 (loose_round _ l2) mixed (by kernel_rfl) ?_
    simp only [List.take_succ_cons, List.take_zero, List.drop_succ_cons, List.drop_zero]
    repeat (go_big_quiet_step (fail))
    refine wpQuiet_nil ?_
    intro X
    have hb4 : Below V.heap.size V X.wd := then_below hb3 X.le
    have k84 := k83.later X.le
    have g6 := k84.frozen 6
    have z6 := k84.cell 6
    simp at z6
    clear c4 x6 pv4 hb3 k83
    generalize X.wd = w4 at *
    have hb5 : Below V.heap.size V (w4.setCell ⟨B8, 6, none⟩ (.bool t0)) := hb4.setCell (p := ⟨B8, 6, none⟩) HB8.out _
    have k85 : Blk (w4.setCell ⟨B8, 6, none⟩ (.bool t0)) B8 32 #[I r0, I r1, I r2, I b.a, I 1, I 1, .bool t0, .bool false, .bool false] := k84.set 6 _
    have pv5 := pv2.later hb5
    have cy := pv5.y.cell 0
    have hJ5 := own_below HJ.out.1 HJ2.out hb5
    have HM5 : Hid (MarkB Wn [] (w4.setCell ⟨B8, 6, none⟩ (.bool t0))) := HMk.out.later hb5
    obtain ⟨fn1, tm1, as1, bd1, hy1, hR1⟩ := HY.out dn (⟨r0, r1, r2, b.a, 1, 1⟩, t0, false, false) _ HN.out hJ5
    dsimp only [encP, PV, P9] at hy1
    have hR1 := roundIn_any (m := 0) hR1
    have v0 := k85.cell 0
    have v1 := k85.cell 1
    have v2 := k85.cell 2
    have v3 := k85.cell 3
    have v4 := k85.cell 4
    have v5 := k85.cell 5
    have v6 := k85.cell 6
    have v7 := k85.cell 7
    have v8 := k85.cell 8
    simp at cy v0 v1 v2 v3 v4 v5 v6 v7 v8
    clear hJ5 hb4 k84
    gi_wp2_with fail
    refine ⟨rfl, hR1.mono ?_⟩
    rintro e W3 (⟨rfl, hJ6, hk6, hf6⟩ | ⟨rfl, hJx6, hf6⟩)
    · gi_wp2
      have hk56 := (keeps_below hb5).from U1.heap.size
      exact ⟨hk56.trans (keepsFrom_mono hf6 HWU1.out), (KeepT.below okAll hb5).trans hk6, ⟨by rw [HE.out]; exact hJ6, pv5.keep hk6⟩, HM5.out.keep hf6 (Nat.le_refl _)⟩
    · gi_wp2
      have hk56 := (keeps_below hb5).from U1.heap.size
      exact ⟨hk56.trans (keepsFrom_mono hf6 HWU1.out), ⟨rfl, _, HN.out, hJx6⟩, HM5.out.keep hf6 (Nat.le_refl _)⟩
  case done0 =>
    rintro Db0 U hD ⟨⟨hJ2, pv2⟩, hmk⟩ hDV
    have mk : MarkB Wn (Db0 :: []) U := hmk.cons (Nat.le_trans HWU1.out hD) hDV (fun d hd => Nat.lt_of_lt_of_le (HML.out d hd) hD)
    have hJ : J (runsK d0 d1 d2 (b, t0, t1, t2) 0) U := by simpa [runsK] using hJ2
    have kp := pv2.p
    have kd := pv2.d
    have ky := pv2.y
    have HWU : Hid (Wn ≤ U.heap.size) := Nat.le_trans (Nat.le_trans HWU1.out hD) (Nat.le_of_lt (Array.getElem?_eq_some_iff.1 hDV).1)
    clear hJ2 pv2 hmk hDV hD HML HM1 HWU1 hsq pv hJ1
    gi_wp2
    rw [roundsIn_succ]
    obtain ⟨⟨x0, x1, x2⟩, ⟨x3, x4, x5⟩, ⟨x6, x7, x8⟩, hz1⟩ := kp.nine (Below.refl _ _)
    have hz2 : Bp < U.heap.size + 1 := by omega
    have hz3 : Bp < U.heap.size + 1 + 1 := by omega
    have hz4 : Bp < U.heap.size + 1 + 1 + 1 := by omega
    gi_wp2_with fail
    refine ⟨trivial, (callsIn_wide.2 (HO.out _ _ _ _)).mono ?_⟩
    rintro e w1 ⟨rfl, rfl⟩
    gi_wp2_with fail
    obtain ⟨U1, hU⟩ : ∃ U1, U1 = ((((U.alloc (.cells #[I 1] 3)).alloc (.cells #[I b.b] 3)).alloc (.cells #[I b.a, I 1, I b.c] 22)).alloc (.cells #[I b.a, I 1, I b.c] 22)) := ⟨_, rfl⟩
    have hbU : Below U.heap.size U U1 := by
      rw [hU]
      exact ((((Below.refl _ U).alloc (Nat.le_refl _) _).alloc (by simp) _).alloc (by simp; omega) _).alloc (by simp; omega) _
    have ki : Blk U1 U.heap.size 3 #[I 1] := by
      rw [hU]
      exact ((((Blk.new U _ _).alloc _).alloc _).alloc _)
    have ks : Blk U1 (U.heap.size + 1) 3 #[I b.b] := by
      rw [hU]
      have := ((Blk.new (U.alloc (.cells #[I 1] 3)) 3 #[I b.b]).alloc (.cells #[I b.a, I 1, I b.c] 22)).alloc (.cells #[I b.a, I 1, I b.c] 22)
      simpa using this
    have ko : Blk U1 (U.heap.size + 1 + 1 + 1) 22 #[I b.a, I 1, I b.c] := by
      rw [hU]
      have := Blk.new (((U.alloc (.cells #[I 1] 3)).alloc (.cells #[I b.b] 3)).alloc (.cells #[I b.a, I 1, I b.c] 22)) 22 #[I b.a, I 1, I b.c]
      simpa using this
    rw [← hU]
    have pv : RunPv Bp Bd Wn U.heap.size (U.heap.size + 1) (C9 b t0 t1 t2) #[I d0, I d1, I d2] #[.func (.yield l) #[] #[]] #[I 1] #[I b.b] U1 := ⟨kp.later hbU, kd.later hbU, ky.later hbU, ki, ks⟩
    have mk1 := mk.later hbU
    have hJ1 := own_below HJ.out.1 hJ hbU
    have HWU1 : Hid (Wn ≤ U1.heap.size) := Nat.le_trans HWU.out hbU.size
    clear x0 x1 x2 x3 x4 x5 x6 x7 x8 hz1 hz2 hz3 hz4 kp kd ky ki ks hbU hU hJ mk HWU
    have hsq : SeqO Tryz.prog 96 #[.pointer (some ⟨U.heap.size + 1 + 1 + 1, 0, none⟩)] encT okAll (acrossL b 1) U1 := offsets_seq (a := b.a.toNat) (b := 1) (c := b.c.toNat) okAll rfl U1 (by
      have h := HS.out
      try rw [h.1.1]
      try rw [h.2.1.1]
      try rw [h.2.2.1]
      exact ko) HS.out.1.2 (by omega) HS.out.2.2.2
    clear ko
    generalize U.heap.size + 1 + 1 + 1 = BO at *
    generalize U.heap.size + 1 + 1 = B6 at *
    generalize U.heap.size + 1 = B5 at *
    generalize U.heap.size = B4 at *
    clear U
    have HM1 : Hid (MarkB Wn [Db0] U1) := mk1
    have HML : Hid (∀ d ∈ ([Db0] : List Nat), d < U1.heap.size) := fun d hd => mk1.lt hd
    clear mk1
    refine wpIn_rangeO rfl (enters_of Tryz.func96 (by kernel_rfl) rfl) hsq (Below.refl _ _) (fun _ => rfl)
      (fun pre V => (J ((runsK d0 d1 d2 (b, t0, t1, t2) 0) ++ pre.map (runP d0 d1 d2 (b, t0, t1, t2) 1)) V ∧ RunPv Bp Bd Wn B4 B5 (C9 b t0 t1 t2) #[I d0, I d1, I d2] #[.func (.yield l) #[] #[]] #[I 1] #[I b.b] V) ∧ MarkB Wn [Db0] V)
      (fun c pre V => (c = .ret ∧ ∃ q, q <+: runsL d0 d1 d2 (b, t0, t1, t2) ∧ Jx q V) ∧ MarkB Wn [Db0] V)
      (fun pre A A' row hs hgr hr => ⟨⟨own_mono HJ.out.1 HWU1.out _ A A' row hs.1.1 hgr hr, hs.1.2.kept hgr (fun r e => (hr r e).2)⟩, hs.2.grown HML.out hgr hr⟩)
      (fun c pre A A' row hs hgr hr => ⟨⟨hs.1.1, by obtain ⟨_, q, hq, hj⟩ := hs.1; exact ⟨q, hq, own_mono HJ.out.2 HWU1.out _ A A' row hj hgr hr⟩⟩, hs.2.grown HML.out hgr hr⟩)
      ⟨⟨by simpa using hJ1, pv⟩, HM1.out⟩
      (fun x a' V => ∃ Bf, a' = { tmps := #[.func (.yield l) #[] #[], .pointer (some ⟨Bp, 0, none⟩), .pointer (some ⟨Bd, 0, none⟩), .pointer (some ⟨Wn, 0, none⟩), .pointer (some ⟨B4, 0, none⟩), .pointer (some ⟨B5, 0, none⟩), .pointer (some ⟨B6, 0, none⟩), .pointer (some ⟨Bf, 0, none⟩), undef, .pointer (some ⟨Bp, 0, none⟩), .pointer (some ⟨Bp, 3, none⟩), .agg #[I b.a, I b.b, I b.c], .int .i64 1, .bool true, .int .i64 1, I b.b, .pointer (some ⟨Bp, 0, none⟩), .pointer (some ⟨Bp, 3, none⟩), .agg #[I b.a, I b.b, I b.c], .int .i64 1, .pointer (some ⟨B6, 1, none⟩), .agg #[I b.a, I 1, I b.c], .func (.func 96) #[] #[.pointer (some ⟨BO, 0, none⟩)], A3 x.1 x.2.1 x.2.2, undef, undef, undef, undef, undef, undef, undef, undef, undef, undef, undef, undef, undef, undef, undef, undef, undef, undef, undef, undef, undef, undef, undef, undef, undef, undef, undef, .int .i64 1], defers := [] } ∧ Blk V Bf 22 #[I x.1, I x.2.1, I x.2.2])
      (fun x a' _ A0 A1 row hs hgr hr => by
        obtain ⟨Bf, e, hb⟩ := hs
        exact ⟨Bf, e, hb.kept hgr (fun r e => (hr r e).2)⟩) ?assign1 ?body1 ?done1 ?stop1
    case assign1 =>
      intro l2 pre x V K hI hK
      have hBa : Below V.heap.size V (V.alloc (.cells #[I x.1, I x.2.1, I x.2.2] 22)) := (Below.refl _ V).alloc (Nat.le_refl _) _
      gi_wp2
      exact hK _ _ ((keeps_below hBa).from _) (KeepT.below _ hBa) ⟨⟨own_below HJ.out.1 hI.1.1 hBa, hI.1.2.later hBa⟩, hI.2.later hBa⟩ ⟨_, rfl, Blk.new _ _ _⟩
    case body1 =>
      rintro l2 pre ⟨o0, o1, o2⟩ a' V hpre hl0 _ ⟨⟨hJ2, pv2⟩, hmk⟩ ⟨Bf, rfl, kf⟩
      dsimp only at kf ⊢
      have ho : (o0, o1, o2) ∈ acrossL b 1 := hpre.subset (by simp)
      have hrp : runP d0 d1 d2 (b, t0, t1, t2) 1 (o0, o1, o2) = (⟨ringO d0 b.x o0, ringO d1 b.y o1, ringO d2 b.z o2, 1, b.b, 1⟩, false, t1, false) := rfl
      have HN : Hid (((runsK d0 d1 d2 (b, t0, t1, t2) 0) ++ pre.map (runP d0 d1 d2 (b, t0, t1, t2) 1)) ++ [(⟨ringO d0 b.x o0, ringO d1 b.y o1, ringO d2 b.z o2, 1, b.b, 1⟩, false, t1, false)] <+: runsL d0 d1 d2 (b, t0, t1, t2)) := by
        rw [← hrp]
        exact runs_next1 hpre
      have HE : Hid ((runsK d0 d1 d2 (b, t0, t1, t2) 0) ++ (pre ++ [(o0, o1, o2)]).map (runP d0 d1 d2 (b, t0, t1, t2) 1) = ((runsK d0 d1 d2 (b, t0, t1, t2) 0) ++ pre.map (runP d0 d1 d2 (b, t0, t1, t2) 1)) ++ [(⟨ringO d0 b.x o0, ringO d1 b.y o1, ringO d2 b.z o2, 1, b.b, 1⟩, false, t1, false)]) := by
        show _ = _
        rw [← hrp]; simp
      have HJ2 : Hid (J ((runsK d0 d1 d2 (b, t0, t1, t2) 0) ++ pre.map (runP d0 d1 d2 (b, t0, t1, t2) 1)) V) := hJ2
      have hon := HW.out 1 (o0, o1, o2)
      have HMk : Hid (MarkB Wn [Db0] V) := hmk
      clear hpre hJ2 hmk hrp
      generalize (runsK d0 d1 d2 (b, t0, t1, t2) 0) ++ pre.map (runP d0 d1 d2 (b, t0, t1, t2) 1) = dn at *
      dsimp only at hon
      generalize ringO d0 b.x o0 = r0 at *
      generalize ringO d1 b.y o1 = r1 at *
      generalize ringO d2 b.z o2 = r2 at *
      obtain ⟨⟨x0, x1, x2⟩, ⟨x3, x4, x5⟩, ⟨x6, x7, x8⟩, hz1⟩ := pv2.p.nine (Below.refl _ _)
      obtain ⟨y0, y1, y2, hz2⟩ := pv2.d.three (Below.refl _ _)
      obtain ⟨f0, f1, f2, hz3⟩ := kf.three (Below.refl _ _)
      gi_wp2_with fail
      obtain ⟨V1, hV1⟩ : ∃ V1, V1 = V.alloc (.cells (C9 ⟨0, 0, 0, 0, 0, 0⟩ false false false) 32) := ⟨_, rfl⟩
      have hb1 : Below V.heap.size V V1 := by rw [hV1]; exact (Below.refl _ V).alloc (Nat.le_refl _) _
      have k8 : Blk V1 V.heap.size 32 (C9 ⟨0, 0, 0, 0, 0, 0⟩ false false false) := by rw [hV1]; exact Blk.new V _ _
      rw [← hV1]
      refine ⟨trivial, rfl, (CallsIn.inRound l2 (callsIn_wide.2 (hon _ (by omega) ho))).mono ?_⟩
      rintro e w2 ⟨rfl, hT⟩
      have hb2 : Below V.heap.size V w2 := then_below hb1 hT
      have k82 := k8.later hT
      clear hV1 hT k8 hb1 hon x0 x1 x2 x3 x4 x5 x6 x7 x8 hz1 y0 y1 y2 hz2 f0 f1 f2 hz3 kf
      have pv3 := pv2.later hb2
      obtain ⟨B8, hB8⟩ : ∃ B8, B8 = V.heap.size := ⟨_, rfl⟩
      have HB8 : Hid (V.heap.size ≤ B8) := by show _ ≤ _; omega
      rw [← hB8] at k82 ⊢
      clear hB8
      have c4 := pv3.i.cell 0
      have c5 := pv3.s.cell 0
      have g8 := k82.frozen
      have hz8 := k82.lt
      have n4 : B4 ≠ B8 := fun e => by have h1 := pv2.i.lt; have h2 := HB8.out; omega
      have n5 : B5 ≠ B8 := fun e => by have h1 := pv2.s.lt; have h2 := HB8.out; omega
      have z0 := k82.cell 0
      have z1 := k82.cell 1
      have z2 := k82.cell 2
      have z3 := k82.cell 3
      have z4 := k82.cell 4
      have z5 := k82.cell 5
      simp at c4 c5 z0 z1 z2 z3 z4 z5
      gi_wp2_with fail
      obtain ⟨w3, hw3⟩ : ∃ w3, w3 = (((((((w2.setCell ⟨B8, 0, none⟩ (I r0)).setCell ⟨B8, 1, none⟩ (I r1)).setCell ⟨B8, 2, none⟩ (I r2)).setCell ⟨B8, 3, none⟩ (I 1)).setCell ⟨B8, 4, none⟩ (I 1)).setCell ⟨B8, 5, none⟩ (I 1)).setCell ⟨B8, 4, none⟩ (I b.b)) := ⟨_, rfl⟩
      have hb3 : Below V.heap.size V w3 := by
        rw [hw3]
        exact ((((((hb2.setCell (p := ⟨B8, 0, none⟩) HB8.out _).setCell (p := ⟨B8, 1, none⟩) HB8.out _).setCell (p := ⟨B8, 2, none⟩) HB8.out _).setCell (p := ⟨B8, 3, none⟩) HB8.out _).setCell (p := ⟨B8, 4, none⟩) HB8.out _).setCell (p := ⟨B8, 5, none⟩) HB8.out _).setCell (p := ⟨B8, 4, none⟩) HB8.out _
      have k83 : Blk w3 B8 32 #[I r0, I r1, I r2, I 1, I b.b, I 1, .bool false, .bool false, .bool false] := by
        rw [hw3]
        exact ((((((k82.set 0 _).set 1 _).set 2 _).set 3 _).set 4 _).set 5 _).set 4 _
      rw [← hw3]
      clear hw3 k82 hb2 pv3 c4 c5 g8 hz8 z0 z1 z2 z3 z4 z5
      have pv4 := pv2.later hb3
      have c4 : ∀ X : Ext w3, X.wd.cell? ⟨B4, 0, none⟩ = some (I 1) := fun X => (pv4.i.later X.le).cell 0
      have x6 : ∀ X : Ext w3, X.wd.cell? ⟨Bp, 7, none⟩ = some (.bool t1) := fun X => (pv4.p.later X.le).cell 7
      refine wpIn_region_tail2 7 (loose_round _ l2) mixed (by kernel_rfl) ?_
      simp only [List.take_succ_cons, List.take_zero, List.drop_succ_cons, List.drop_zero]
      repeat (go_big_quiet_step (fail))
      refine wpQuiet_nil ?_
      intro X
      have hb4 : Below V.heap.size V X.wd := then_below hb3 X.le
      have k84 := k83.later X.le
      have g6 := k84.frozen 7
      have z6 := k84.cell 7
      simp at z6
      clear c4 x6 pv4 hb3 k83
      generalize X.wd = w4 at *
      have hb5 : Below V.heap.size V (w4.setCell ⟨B8, 7, none⟩ (.bool t1)) := hb4.setCell (p := ⟨B8, 7, none⟩) HB8.out _
      have k85 : Blk (w4.setCell ⟨B8, 7, none⟩ (.bool t1)) B8 32 #[I r0, I r1, I r2, I 1, I b.b, I 1, .bool false, .bool t1, .bool false] := k84.set 7 _
      have pv5 := pv2.later hb5
      have cy := pv5.y.cell 0
      have hJ5 := own_below HJ.out.1 HJ2.out hb5
      have HM5 : Hid (MarkB Wn [Db0] (w4.setCell ⟨B8, 7, none⟩ (.bool t1))) := HMk.out.later hb5
      obtain ⟨fn1, tm1, as1, bd1, hy1, hR1⟩ := HY.out dn (⟨r0, r1, r2, 1, b.b, 1⟩, false, t1, false) _ HN.out hJ5
      dsimp only [encP, PV, P9] at hy1
      have hR1 := roundIn_any (m := 0) hR1
      have v0 := k85.cell 0
      have v1 := k85.cell 1
      have v2 := k85.cell 2
      have v3 := k85.cell 3
      have v4 := k85.cell 4
      have v5 := k85.cell 5
      have v6 := k85.cell 6
      have v7 := k85.cell 7
      have v8 := k85.cell 8
      simp at cy v0 v1 v2 v3 v4 v5 v6 v7 v8
      clear hJ5 hb4 k84
      gi_wp2_with fail
      refine ⟨rfl, hR1.mono ?_⟩
      rintro e W3 (⟨rfl, hJ6, hk6, hf6⟩ | ⟨rfl, hJx6, hf6⟩)
      · gi_wp2
        have hk56 := (keeps_below hb5).from U1.heap.size
        exact ⟨hk56.trans (keepsFrom_mono hf6 HWU1.out), (KeepT.below okAll hb5).trans hk6, ⟨by rw [HE.out]; exact hJ6, pv5.keep hk6⟩, HM5.out.keep hf6 (Nat.le_refl _)⟩
      · gi_wp2
        have hk56 := (keeps_below hb5).from U1.heap.size
        exact ⟨hk56.trans (keepsFrom_mono hf6 HWU1.out), ⟨rfl, _, HN.out, hJx6⟩, HM5.out.keep hf6 (Nat.le_refl _)⟩
    case done1 =>
      rintro Db1 U hD ⟨⟨hJ2, pv2⟩, hmk⟩ hDV
      have mk : MarkB Wn (Db1 :: [Db0]) U := hmk.cons (Nat.le_trans HWU1.out hD) hDV (fun d hd => Nat.lt_of_lt_of_le (HML.out d hd) hD)
      have hJ : J (runsK d0 d1 d2 (b, t0, t1, t2) 0 ++ runsK d0 d1 d2 (b, t0, t1, t2) 1) U := by simpa [runsK] using hJ2
      have kp := pv2.p
      have kd := pv2.d
      have ky := pv2.y
      have HWU : Hid (Wn ≤ U.heap.size) := Nat.le_trans (Nat.le_trans HWU1.out hD) (Nat.le_of_lt (Array.getElem?_eq_some_iff.1 hDV).1)
      clear hJ2 pv2 hmk hDV hD HML HM1 HWU1 hsq pv hJ1
      gi_wp2
      rw [roundsIn_succ]
      obtain ⟨⟨x0, x1, x2⟩, ⟨x3, x4, x5⟩, ⟨x6, x7, x8⟩, hz1⟩ := kp.nine (Below.refl _ _)
      have hz2 : Bp < U.heap.size + 1 := by omega
      have hz3 : Bp < U.heap.size + 1 + 1 := by omega
      have hz4 : Bp < U.heap.size + 1 + 1 + 1 := by omega
      gi_wp2_with fail
      refine ⟨trivial, (callsIn_wide.2 (HO.out _ _ _ _)).mono ?_⟩
      rintro e w1 ⟨rfl, rfl⟩
      gi_wp2_with fail
      obtain ⟨U1, hU⟩ : ∃ U1, U1 = ((((U.alloc (.cells #[I 2] 3)).alloc (.cells #[I b.c] 3)).alloc (.cells #[I b.a, I b.b, I 1] 22)).alloc (.cells #[I b.a, I b.b, I 1] 22)) := ⟨_, rfl⟩
      have hbU : Below U.heap.size U U1 := by
        rw [hU]
        exact ((((Below.refl _ U).alloc (Nat.le_refl _) _).alloc (by simp) _).alloc (by simp; omega) _).alloc (by simp; omega) _
      have ki : Blk U1 U.heap.size 3 #[I 2] := by
        rw [hU]
        exact ((((Blk.new U _ _).alloc _).alloc _).alloc _)
      have ks : Blk U1 (U.heap.size + 1) 3 #[I b.c] := by
        rw [hU]
        have := ((Blk.new (U.alloc (.cells #[I 2] 3)) 3 #[I b.c]).alloc (.cells #[I b.a, I b.b, I 1] 22)).alloc (.cells #[I b.a, I b.b, I 1] 22)
        simpa using this
      have ko : Blk U1 (U.heap.size + 1 + 1 + 1) 22 #[I b.a, I b.b, I 1] := by
        rw [hU]
        have := Blk.new (((U.alloc (.cells #[I 2] 3)).alloc (.cells #[I b.c] 3)).alloc (.cells #[I b.a, I b.b, I 1] 22)) 22 #[I b.a, I b.b, I 1]
        simpa using this
      rw [← hU]
      have pv : RunPv Bp Bd Wn U.heap.size (U.heap.size + 1) (C9 b t0 t1 t2) #[I d0, I d1, I d2] #[.func (.yield l) #[] #[]] #[I 2] #[I b.c] U1 := ⟨kp.later hbU, kd.later hbU, ky.later hbU, ki, ks⟩
      have mk1 := mk.later hbU
      have hJ1 := own_below HJ.out.1 hJ hbU
      have HWU1 : Hid (Wn ≤ U1.heap.size) := Nat.le_trans HWU.out hbU.size
      clear x0 x1 x2 x3 x4 x5 x6 x7 x8 hz1 hz2 hz3 hz4 kp kd ky ki ks hbU hU hJ mk HWU
      have hsq : SeqO Tryz.prog 96 #[.pointer (some ⟨U.heap.size + 1 + 1 + 1, 0, none⟩)] encT okAll (acrossL b 2) U1 := offsets_seq (a := b.a.toNat) (b := b.b.toNat) (c := 1) okAll rfl U1 (by
        have h := HS.out
        try rw [h.1.1]
        try rw [h.2.1.1]
        try rw [h.2.2.1]
        exact ko) HS.out.1.2 HS.out.2.1.2 (by omega)
      clear ko
      generalize U.heap.size + 1 + 1 + 1 = BO at *
      generalize U.heap.size + 1 + 1 = B6 at *
      generalize U.heap.size + 1 = B5 at *
      generalize U.heap.size = B4 at *
      clear U
      have HM1 : Hid (MarkB Wn [Db1, Db0] U1) := mk1
      have HML : Hid (∀ d ∈ ([Db1, Db0] : List Nat), d < U1.heap.size) := fun d hd => mk1.lt hd
      clear mk1
      refine wpIn_rangeO rfl (enters_of Tryz.func96 (by kernel_rfl) rfl) hsq (Below.refl _ _) (fun _ => rfl)
        (fun pre V => (J ((runsK d0 d1 d2 (b, t0, t1, t2) 0 ++ runsK d0 d1 d2 (b, t0, t1, t2) 1) ++ pre.map (runP d0 d1 d2 (b, t0, t1, t2) 2)) V ∧ RunPv Bp Bd Wn B4 B5 (C9 b t0 t1 t2) #[I d0, I d1, I d2] #[.func (.yield l) #[] #[]] #[I 2] #[I b.c] V) ∧ MarkB Wn [Db1, Db0] V)
        (fun c pre V => (c = .ret ∧ ∃ q, q <+: runsL d0 d1 d2 (b, t0, t1, t2) ∧ Jx q V) ∧ MarkB Wn [Db1, Db0] V)
        (fun pre A A' row hs hgr hr => ⟨⟨own_mono HJ.out.1 HWU1.out _ A A' row hs.1.1 hgr hr, hs.1.2.kept hgr (fun r e => (hr r e).2)⟩, hs.2.grown HML.out hgr hr⟩)
        (fun c pre A A' row hs hgr hr => ⟨⟨hs.1.1, by obtain ⟨_, q, hq, hj⟩ := hs.1; exact ⟨q, hq, own_mono HJ.out.2 HWU1.out _ A A' row hj hgr hr⟩⟩, hs.2.grown HML.out hgr hr⟩)
        ⟨⟨by simpa using hJ1, pv⟩, HM1.out⟩
        (fun x a' V => ∃ Bf, a' = { tmps := #[.func (.yield l) #[] #[], .pointer (some ⟨Bp, 0, none⟩), .pointer (some ⟨Bd, 0, none⟩), .pointer (some ⟨Wn, 0, none⟩), .pointer (some ⟨B4, 0, none⟩), .pointer (some ⟨B5, 0, none⟩), .pointer (some ⟨B6, 0, none⟩), .pointer (some ⟨Bf, 0, none⟩), undef, .pointer (some ⟨Bp, 0, none⟩), .pointer (some ⟨Bp, 3, none⟩), .agg #[I b.a, I b.b, I b.c], .int .i64 2, .bool true, .int .i64 2, I b.c, .pointer (some ⟨Bp, 0, none⟩), .pointer (some ⟨Bp, 3, none⟩), .agg #[I b.a, I b.b, I b.c], .int .i64 2, .pointer (some ⟨B6, 2, none⟩), .agg #[I b.a, I b.b, I 1], .func (.func 96) #[] #[.pointer (some ⟨BO, 0, none⟩)], A3 x.1 x.2.1 x.2.2, undef, undef, undef, undef, undef, undef, undef, undef, undef, undef, undef, undef, undef, undef, undef, undef, undef, undef, undef, undef, undef, undef, undef, undef, undef, undef, undef, .int .i64 2], defers := [] } ∧ Blk V Bf 22 #[I x.1, I x.2.1, I x.2.2])
        (fun x a' _ A0 A1 row hs hgr hr => by
          obtain ⟨Bf, e, hb⟩ := hs
          exact ⟨Bf, e, hb.kept hgr (fun r e => (hr r e).2)⟩) ?assign2 ?body2 ?done2 ?stop2
      case assign2 =>
        intro l2 pre x V K hI hK
        have hBa : Below V.heap.size V (V.alloc (.cells #[I x.1, I x.2.1, I x.2.2] 22)) := (Below.refl _ V).alloc (Nat.le_refl _) _
        gi_wp2
        exact hK _ _ ((keeps_below hBa).from _) (KeepT.below _ hBa) ⟨⟨own_below HJ.out.1 hI.1.1 hBa, hI.1.2.later hBa⟩, hI.2.later hBa⟩ ⟨_, rfl, Blk.new _ _ _⟩
      case body2 =>
        rintro l2 pre ⟨o0, o1, o2⟩ a' V hpre hl0 _ ⟨⟨hJ2, pv2⟩, hmk⟩ ⟨Bf, rfl, kf⟩
        dsimp only at kf ⊢
        have ho : (o0, o1, o2) ∈ acrossL b 2 := hpre.subset (by simp)
        have hrp : runP d0 d1 d2 (b, t0, t1, t2) 2 (o0, o1, o2) = (⟨ringO d0 b.x o0, ringO d1 b.y o1, ringO d2 b.z o2, 1, 1, b.c⟩, false, false, t2) := rfl
        have HN : Hid (((runsK d0 d1 d2 (b, t0, t1, t2) 0 ++ runsK d0 d1 d2 (b, t0, t1, t2) 1) ++ pre.map (runP d0 d1 d2 (b, t0, t1, t2) 2)) ++ [(⟨ringO d0 b.x o0, ringO d1 b.y o1, ringO d2 b.z o2, 1, 1, b.c⟩, false, false, t2)] <+: runsL d0 d1 d2 (b, t0, t1, t2)) := by
          rw [← hrp]
          exact runs_next2 hpre
        have HE : Hid ((runsK d0 d1 d2 (b, t0, t1, t2) 0 ++ runsK d0 d1 d2 (b, t0, t1, t2) 1) ++ (pre ++ [(o0, o1, o2)]).map (runP d0 d1 d2 (b, t0, t1, t2) 2) = ((runsK d0 d1 d2 (b, t0, t1, t2) 0 ++ runsK d0 d1 d2 (b, t0, t1, t2) 1) ++ pre.map (runP d0 d1 d2 (b, t0, t1, t2) 2)) ++ [(⟨ringO d0 b.x o0, ringO d1 b.y o1, ringO d2 b.z o2, 1, 1, b.c⟩, false, false, t2)]) := by
          show _ = _
          rw [← hrp]; simp
        have HJ2 : Hid (J ((runsK d0 d1 d2 (b, t0, t1, t2) 0 ++ runsK d0 d1 d2 (b, t0, t1, t2) 1) ++ pre.map (runP d0 d1 d2 (b, t0, t1, t2) 2)) V) := hJ2
        have hon := HW.out 2 (o0, o1, o2)
        have HMk : Hid (MarkB Wn [Db1, Db0] V) := hmk
        clear hpre hJ2 hmk hrp
        generalize (runsK d0 d1 d2 (b, t0, t1, t2) 0 ++ runsK d0 d1 d2 (b, t0, t1, t2) 1) ++ pre.map (runP d0 d1 d2 (b, t0, t1, t2) 2) = dn at *
        dsimp only at hon
        generalize ringO d0 b.x o0 = r0 at *
        generalize ringO d1 b.y o1 = r1 at *
        generalize ringO d2 b.z o2 = r2 at *
        obtain ⟨⟨x0, x1, x2⟩, ⟨x3, x4, x5⟩, ⟨x6, x7, x8⟩, hz1⟩ := pv2.p.nine (Below.refl _ _)
        obtain ⟨y0, y1, y2, hz2⟩ := pv2.d.three (Below.refl _ _)
        obtain ⟨f0, f1, f2, hz3⟩ := kf.three (Below.refl _ _)
        gi_wp2_with fail
        obtain ⟨V1, hV1⟩ : ∃ V1, V1 = V.alloc (.cells (C9 ⟨0, 0, 0, 0, 0, 0⟩ false false false) 32) := ⟨_, rfl⟩
        have hb1 : Below V.heap.size V V1 := by rw [hV1]; exact (Below.refl _ V).alloc (Nat.le_refl _) _
        have k8 : Blk V1 V.heap.size 32 (C9 ⟨0, 0, 0, 0, 0, 0⟩ false false false) := by rw [hV1]; exact Blk.new V _ _
        rw [← hV1]
        refine ⟨trivial, rfl, (CallsIn.inRound l2 (callsIn_wide.2 (hon _ (by omega) ho))).mono ?_⟩
        rintro e w2 ⟨rfl, hT⟩
        have hb2 : Below V.heap.size V w2 := then_below hb1 hT
        have k82 := k8.later hT
        clear hV1 hT k8 hb1 hon x0 x1 x2 x3 x4 x5 x6 x7 x8 hz1 y0 y1 y2 hz2 f0 f1 f2 hz3 kf
        have pv3 := pv2.later hb2
        obtain ⟨B8, hB8⟩ : ∃ B8, B8 = V.heap.size := ⟨_, rfl⟩
        have HB8 : Hid (V.heap.size ≤ B8) := by show _ ≤ _; omega
        rw [← hB8] at k82 ⊢
        clear hB8
        have c4 := pv3.i.cell 0
        have c5 := pv3.s.cell 0
        have g8 := k82.frozen
        have hz8 := k82.lt
        have n4 : B4 ≠ B8 := fun e => by have h1 := pv2.i.lt; have h2 := HB8.out; omega
        have n5 : B5 ≠ B8 := fun e => by have h1 := pv2.s.lt; have h2 := HB8.out; omega
        have z0 := k82.cell 0
        have z1 := k82.cell 1
        have z2 := k82.cell 2
        have z3 := k82.cell 3
        have z4 := k82.cell 4
        have z5 := k82.cell 5
        simp at c4 c5 z0 z1 z2 z3 z4 z5
        gi_wp2_with fail
        obtain ⟨w3, hw3⟩ : ∃ w3, w3 = (((((((w2.setCell ⟨B8, 0, none⟩ (I r0)).setCell ⟨B8, 1, none⟩ (I r1)).setCell ⟨B8, 2, none⟩ (I r2)).setCell ⟨B8, 3, none⟩ (I 1)).setCell ⟨B8, 4, none⟩ (I 1)).setCell ⟨B8, 5, none⟩ (I 1)).setCell ⟨B8, 5, none⟩ (I b.c)) := ⟨_, rfl⟩
        have hb3 : Below V.heap.size V w3 := by
          rw [hw3]
          exact ((((((hb2.setCell (p := ⟨B8, 0, none⟩) HB8.out _).setCell (p := ⟨B8, 1, none⟩) HB8.out _).setCell (p := ⟨B8, 2, none⟩) HB8.out _).setCell (p := ⟨B8, 3, none⟩) HB8.out _).setCell (p := ⟨B8, 4, none⟩) HB8.out _).setCell (p := ⟨B8, 5, none⟩) HB8.out _).setCell (p := ⟨B8, 5, none⟩) HB8.out _
        have k83 : Blk w3 B8 32 #[I r0, I r1, I r2, I 1, I 1, I b.c, .bool false, .bool false, .bool false] := by
          rw [hw3]
          exact ((((((k82.set 0 _).set 1 _).set 2 _).set 3 _).set 4 _).set 5 _).set 5 _
        rw [← hw3]
        clear hw3 k82 hb2 pv3 c4 c5 g8 hz8 z0 z1 z2 z3 z4 z5
        have pv4 := pv2.later hb3
        have c4 : ∀ X : Ext w3, X.wd.cell? ⟨B4, 0, none⟩ = some (I 2) := fun X => (pv4.i.later X.le).cell 0
        have x6 : ∀ X : Ext w3, X.wd.cell? ⟨Bp, 8, none⟩ = some (.bool t2) := fun X => (pv4.p.later X.le).cell 8
        refine wpIn_region_tail2 7 (loose_round _ l2) mixed (by kernel_rfl) ?_
        simp only [List.take_succ_cons, List.take_zero, List.drop_succ_cons, List.drop_zero]
        repeat (go_big_quiet_step (fail))
        refine wpQuiet_nil ?_
        intro X
        have hb4 : Below V.heap.size V X.wd := then_below hb3 X.le
        have k84 := k83.later X.le
        have g6 := k84.frozen 8
        have z6 := k84.cell 8
        simp at z6
        clear c4 x6 pv4 hb3 k83
        generalize X.wd = w4 at *
        have hb5 : Below V.heap.size V (w4.setCell ⟨B8, 8, none⟩ (.bool t2)) := hb4.setCell (p := ⟨B8, 8, none⟩) HB8.out _
        have k85 : Blk (w4.setCell ⟨B8, 8, none⟩ (.bool t2)) B8 32 #[I r0, I r1, I r2, I 1, I 1, I b.c, .bool false, .bool false, .bool t2] := k84.set 8 _
        have pv5 := pv2.later hb5
        have cy := pv5.y.cell 0
        have hJ5 := own_below HJ.out.1 HJ2.out hb5
        have HM5 : Hid (MarkB Wn [Db1, Db0] (w4.setCell ⟨B8, 8, none⟩ (.bool t2))) := HMk.out.later hb5
        obtain ⟨fn1, tm1, as1, bd1, hy1, hR1⟩ := HY.out dn (⟨r0, r1, r2, 1, 1, b.c⟩, false, false, t2) _ HN.out hJ5
        dsimp only [encP, PV, P9] at hy1
        have hR1 := roundIn_any (m := 0) hR1
        have v0 := k85.cell 0
        have v1 := k85.cell 1
        have v2 := k85.cell 2
        have v3 := k85.cell 3
        have v4 := k85.cell 4
        have v5 := k85.cell 5
        have v6 := k85.cell 6
        have v7 := k85.cell 7
        have v8 := k85.cell 8
        simp at cy v0 v1 v2 v3 v4 v5 v6 v7 v8
        clear hJ5 hb4 k84
        gi_wp2_with fail
        refine ⟨rfl, hR1.mono ?_⟩
        rintro e W3 (⟨rfl, hJ6, hk6, hf6⟩ | ⟨rfl, hJx6, hf6⟩)
        · gi_wp2
          have hk56 := (keeps_below hb5).from U1.heap.size
          exact ⟨hk56.trans (keepsFrom_mono hf6 HWU1.out), (KeepT.below okAll hb5).trans hk6, ⟨by rw [HE.out]; exact hJ6, pv5.keep hk6⟩, HM5.out.keep hf6 (Nat.le_refl _)⟩
        · gi_wp2
          have hk56 := (keeps_below hb5).from U1.heap.size
          exact ⟨hk56.trans (keepsFrom_mono hf6 HWU1.out), ⟨rfl, _, HN.out, hJx6⟩, HM5.out.keep hf6 (Nat.le_refl _)⟩
      case done2 =>
        rintro Db2 U hD ⟨⟨hJ2, pv2⟩, hmk⟩ hDV
        have mk : MarkB Wn (Db2 :: [Db1, Db0]) U := hmk.cons (Nat.le_trans HWU1.out hD) hDV (fun d hd => Nat.lt_of_lt_of_le (HML.out d hd) hD)
        have HF : Hid (J (runsL d0 d1 d2 (b, t0, t1, t2)) U) := by
          show J _ _
          rw [HR.out]
          simpa [runsK] using hJ2
        clear hJ2 pv2 hmk hDV hD HML HM1 HWU1 hsq pv hJ1
        gi_wp2
        rw [roundsIn_succ]
        gi_wp2
        exact leaves_own (n := Wn) (fun V' => J (runsL d0 d1 d2 (b, t0, t1, t2)) V') (fun _ A A' row hs hgr hr => HJ.out.1 _ A A' row hs hgr hr) _ U mk.1 mk.2 HF.out (fun V' hV' _ => ⟨_, results_none rfl _ _ _, ⟨_, rfl⟩, .inl hV'⟩)
      case stop2 =>
        rintro D c pre V hD hpre ⟨⟨rfl, q, hq, hj⟩, hmk⟩ hDV
        have mk : MarkB Wn (D :: [Db1, Db0]) V := hmk.cons (Nat.le_trans HWU1.out hD) hDV (fun d hd => Nat.lt_of_lt_of_le (HML.out d hd) hD)
        gi_wp2
        exact leaves_own (n := Wn) (fun V' => Jx q V') (fun _ A A' row hs hgr hr => HJ.out.2 _ A A' row hs hgr hr) _ V mk.1 mk.2 hj (fun V' hV' _ => ⟨_, results_none rfl _ _ _, ⟨_, rfl⟩, .inr ⟨q, hq, hV'⟩⟩)
    case stop1 =>
      rintro D c pre V hD hpre ⟨⟨rfl, q, hq, hj⟩, hmk⟩ hDV
      have mk : MarkB Wn (D :: [Db0]) V := hmk.cons (Nat.le_trans HWU1.out hD) hDV (fun d hd => Nat.lt_of_lt_of_le (HML.out d hd) hD)
      gi_wp2
      exact leaves_own (n := Wn) (fun V' => Jx q V') (fun _ A A' row hs hgr hr => HJ.out.2 _ A A' row hs hgr hr) _ V mk.1 mk.2 hj (fun V' hV' _ => ⟨_, results_none rfl _ _ _, ⟨_, rfl⟩, .inr ⟨q, hq, hV'⟩⟩)
  case stop0 =>
    rintro D c pre V hD hpre ⟨⟨rfl, q, hq, hj⟩, hmk⟩ hDV
    have mk : MarkB Wn (D :: []) V := hmk.cons (Nat.le_trans HWU1.out hD) hDV (fun d hd => Nat.lt_of_lt_of_le (HML.out d hd) hD)
    gi_wp2
    exact leaves_own (n := Wn) (fun V' => Jx q V') (fun _ A A' row hs hgr hr => HJ.out.2 _ A A' row hs hgr hr) _ V mk.1 mk.2 hj (fun V' hV' _ => ⟨_, results_none rfl _ _ _, ⟨_, rfl⟩, .inr ⟨q, hq, hV'⟩⟩)

end Go.Proofs.YtlahfffgmfjpaaaGreatDoor

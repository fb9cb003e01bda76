/-
  tidehallref12.Every. (Written by tools/gen/spots_ref_every.py.)
-/
import Derived.Test.YtlahfffgmfjpaaaGreatDoorPart37
import Derived.Test.YtlahfffgmfjpaaaGreatDoorPart32
import Derived.Test.YtlahfffgmfjpaaaGreatDoorPart34
import Derived.Test.YtlahfffgmfjpaaaGreatDoorLoud5
namespace Go.Proofs.YtlahfffgmfjpaaaGreatDoor
open Go Go.RowKit Go.Shelf Go.Maps

attribute [local go_sem] Oper.semAt_some ext_const ixI0 ixI1 ixI2

abbrev z9 : Array Value := #[I 0, I 0, I 0, I 0, I 0, I 0, .bool false, .bool false, .bool false]
theorem Blk.set9 {W : World} {B : Nat} {t : TypeId} {x0 x1 x2 x3 x4 x5 x6 x7 x8 : Value} (h : Blk W B t #[x0, x1, x2, x3, x4, x5, x6, x7, x8]) (c0 c1 c2 c3 c4 c5 c6 c7 c8 : Value) :
    Blk (((((((((W.setCell ⟨B, 0, none⟩ c0).setCell ⟨B, 1, none⟩ c1).setCell ⟨B, 2, none⟩ c2).setCell ⟨B, 3, none⟩ c3).setCell ⟨B, 4, none⟩ c4).setCell ⟨B, 5, none⟩ c5).setCell ⟨B, 6, none⟩ c6).setCell ⟨B, 7, none⟩ c7).setCell ⟨B, 8, none⟩ c8) B t #[c0, c1, c2, c3, c4, c5, c6, c7, c8] := by
  have h0 : Blk _ B t #[c0, x1, x2, x3, x4, x5, x6, x7, x8] := h.set 0 c0
  have h1 : Blk _ B t #[c0, c1, x2, x3, x4, x5, x6, x7, x8] := h0.set 1 c1
  have h2 : Blk _ B t #[c0, c1, c2, x3, x4, x5, x6, x7, x8] := h1.set 2 c2
  have h3 : Blk _ B t #[c0, c1, c2, c3, x4, x5, x6, x7, x8] := h2.set 3 c3
  have h4 : Blk _ B t #[c0, c1, c2, c3, c4, x5, x6, x7, x8] := h3.set 4 c4
  have h5 : Blk _ B t #[c0, c1, c2, c3, c4, c5, x6, x7, x8] := h4.set 5 c5
  have h6 : Blk _ B t #[c0, c1, c2, c3, c4, c5, c6, x7, x8] := h5.set 6 c6
  have h7 : Blk _ B t #[c0, c1, c2, c3, c4, c5, c6, c7, x8] := h6.set 7 c7
  have h8 : Blk _ B t #[c0, c1, c2, c3, c4, c5, c6, c7, c8] := h7.set 8 c8
  exact h8
theorem below_set9 {n : Nat} {w W : World} {B : Nat} (h : Below n w W) (hn : n ≤ B) (c0 c1 c2 c3 c4 c5 c6 c7 c8 : Value) :
    Below n w (((((((((W.setCell ⟨B, 0, none⟩ c0).setCell ⟨B, 1, none⟩ c1).setCell ⟨B, 2, none⟩ c2).setCell ⟨B, 3, none⟩ c3).setCell ⟨B, 4, none⟩ c4).setCell ⟨B, 5, none⟩ c5).setCell ⟨B, 6, none⟩ c6).setCell ⟨B, 7, none⟩ c7).setCell ⟨B, 8, none⟩ c8) :=
  ((((((((h.setCell (p := ⟨B, 0, none⟩) hn c0).setCell (p := ⟨B, 1, none⟩) hn c1).setCell (p := ⟨B, 2, none⟩) hn c2).setCell (p := ⟨B, 3, none⟩) hn c3).setCell (p := ⟨B, 4, none⟩) hn c4).setCell (p := ⟨B, 5, none⟩) hn c5).setCell (p := ⟨B, 6, none⟩) hn c6).setCell (p := ⟨B, 7, none⟩) hn c7).setCell (p := ⟨B, 8, none⟩) hn c8
/-- What lay stays, but that a new place of the statement may become one with a box. -/
def KeepP (n : Nat) (b : Bx) (w w' : World) : Prop := Below n w w' ∧ ∀ (k : Nat) (o : Obj), n ≤ k → w.heap[k]? = some o → w'.heap[k]? = some o ∨ (o = .cells z9 32 ∧ w'.heap[k]? = some (.cells (C9 b false false false) 32))
theorem KeepP.refl (n : Nat) (b : Bx) (w : World) : KeepP n b w w := ⟨Below.refl _ _, fun _ _ _ h => .inl h⟩
theorem KeepP.trans {n : Nat} {b : Bx} (x y z : World) (h : KeepP n b x y) (k : KeepP n b y z) : KeepP n b x z :=
  ⟨h.1.trans k.1, fun i o hi ho => by
    rcases h.2 i o hi ho with h1 | ⟨e, h1⟩
    · exact k.2 i o hi h1
    · rcases k.2 i _ hi h1 with h2 | ⟨_, h2⟩
      · exact .inr ⟨e, h2⟩
      · exact .inr ⟨e, h2⟩⟩
theorem KeepP.below {n : Nat} {b : Bx} {w w' : World} (h : Below w.heap.size w w') (hn : n ≤ w.heap.size) : KeepP n b w w' :=
  ⟨h.mono hn, fun k _ _ ho => .inl ((h.block k (Array.getElem?_eq_some_iff.1 ho).1).trans ho)⟩
theorem KeepP.nx {n : Nat} {b : Bx} {w w' : World} (h : KeepP n b w w') {B : Nat} (hn : n ≤ B) (hB : Blk w B 32 (C9 b false false false)) : Blk w' B 32 (C9 b false false false) := by
  rcases h.2 B _ hn hB with h1 | ⟨_, h1⟩
  · exact h1
  · exact h1
theorem KeepP.new {n : Nat} {b : Bx} {w w' : World} (h : KeepP n b w w') {B : Nat} (hn : n ≤ B) (hB : Blk w B 32 z9 ∨ Blk w B 32 (C9 b false false false)) : Blk w' B 32 z9 ∨ Blk w' B 32 (C9 b false false false) := by
  rcases hB with hB | hB
  · rcases h.2 B _ hn hB with h1 | ⟨_, h1⟩
    · exact .inl h1
    · exact .inr h1
  · exact .inr (h.nx hn hB)
set_option maxRecDepth 100000 in
set_option maxHeartbeats 4000000 in
theorem store_pl {n : Nat} {b : Bx} {w : World} {B : Nat} (hn : n ≤ B) (hB : Blk w B 32 z9 ∨ Blk w B 32 (C9 b false false false)) :
    ∃ w', (Instr.storeAt 32 (.pointer (some ⟨B, 0, none⟩)) (P9 b false false false)).run Tryz.prog w = .ok () w' ∧ KeepP n b w w' ∧ Blk w' B 32 (C9 b false false false) := by
  obtain ⟨x0, x1, x2, x3, x4, x5, x6, x7, x8, hk⟩ : ∃ x0 x1 x2 x3 x4 x5 x6 x7 x8, Blk w B 32 #[x0, x1, x2, x3, x4, x5, x6, x7, x8] := by
    rcases hB with h | h
    · exact ⟨_, _, _, _, _, _, _, _, _, h⟩
    · exact ⟨_, _, _, _, _, _, _, _, _, h⟩
  have h9 := hk.set9 (I b.x) (I b.y) (I b.z) (I b.a) (I b.b) (I b.c) (.bool false) (.bool false) (.bool false)
  have hb9 := below_set9 (Below.refl n w) hn (I b.x) (I b.y) (I b.z) (I b.a) (I b.b) (I b.c) (.bool false) (.bool false) (.bool false)
  have hother : ∀ k, k ≠ B → (((((((((w.setCell ⟨B, 0, none⟩ (I b.x)).setCell ⟨B, 1, none⟩ (I b.y)).setCell ⟨B, 2, none⟩ (I b.z)).setCell ⟨B, 3, none⟩ (I b.a)).setCell ⟨B, 4, none⟩ (I b.b)).setCell ⟨B, 5, none⟩ (I b.c)).setCell ⟨B, 6, none⟩ (.bool false)).setCell ⟨B, 7, none⟩ (.bool false)).setCell ⟨B, 8, none⟩ (.bool false)).heap[k]? = w.heap[k]? := fun k hne =>
    ((((((((RowKit.Below.heap_setCell _ ⟨B, 8, none⟩ _ k hne).trans (RowKit.Below.heap_setCell _ ⟨B, 7, none⟩ _ k hne)).trans (RowKit.Below.heap_setCell _ ⟨B, 6, none⟩ _ k hne)).trans (RowKit.Below.heap_setCell _ ⟨B, 5, none⟩ _ k hne)).trans (RowKit.Below.heap_setCell _ ⟨B, 4, none⟩ _ k hne)).trans (RowKit.Below.heap_setCell _ ⟨B, 3, none⟩ _ k hne)).trans (RowKit.Below.heap_setCell _ ⟨B, 2, none⟩ _ k hne)).trans (RowKit.Below.heap_setCell _ ⟨B, 1, none⟩ _ k hne)).trans (RowKit.Below.heap_setCell _ ⟨B, 0, none⟩ _ k hne)
  refine ⟨_, ?_, ⟨hb9, fun k o hk2 ho => ?_⟩, h9⟩
  · have c0 := hk.cell 0
    have f0 := hk.frozen 0
    clear hB hb9 hother
    have k1 := hk.set 0 (I b.x)
    have k2 := k1.set 1 (I b.y)
    have k3 := k2.set 2 (I b.z)
    have k4 := k3.set 3 (I b.a)
    have k5 := k4.set 4 (I b.b)
    have k6 := k5.set 5 (I b.c)
    have k7 := k6.set 6 (.bool false)
    have k8 := k7.set 7 (.bool false)
    have r1 := k1.cell 1; have g1 := k1.frozen 1
    have r2 := k2.cell 2; have g2 := k2.frozen 2
    have r3 := k3.cell 3; have g3 := k3.frozen 3
    have r4 := k4.cell 4; have g4 := k4.frozen 4
    have r5 := k5.cell 5; have g5 := k5.frozen 5
    have r6 := k6.cell 6; have g6 := k6.frozen 6
    have r7 := k7.cell 7; have g7 := k7.frozen 7
    have r8 := k8.cell 8; have g8 := k8.frozen 8
    simp at c0 r1 r2 r3 r4 r5 r6 r7 r8
    clear k1 k2 k3 k4 k5 k6 k7 k8 hk h9
    go_simp
  · by_cases e : k = B
    · subst e
      rcases hB with h | h
      · refine .inr ⟨?_, h9⟩
        have h' : w.heap[k]? = some (.cells z9 32) := h
        rw [ho] at h'
        exact Option.some.inj h'
      · have h' : w.heap[k]? = some (.cells (C9 b false false false) 32) := h
        rw [ho] at h'
        rw [Option.some.inj h']
        exact .inl h9
    · exact .inl ((hother k e).trans ho)

/-- What an operation of the region that makes a place comes to. -/
def wordE (n : Nat) (d0 d1 d2 m : Int) (X Y Q x y z : Int) (vl : Value) (gT i : Nat) (k : Nat) (v : Value) (w : World) : Prop :=
  match k with
  | 0 => v = A3 d0 d1 d2
  | 1 => v = I m
  | 2 => v = A3 X Y Q
  | 3 => v = vl
  | 4 => v = I (i : Int)
  | 5 => v = .pointer (some ⟨gT, i * 7, none⟩)
  | 6 => v = .pointer (some ⟨gT, i * 7, none⟩)
  | 7 => v = A3 x y z
  | 8 => v = B6 ⟨X, Y, Q, x, y, z⟩
  | 9 => v = P9 ⟨X, Y, Q, x, y, z⟩ false false false
  | 10 => ∃ B, v = .pointer (some ⟨B, 0, none⟩) ∧ n ≤ B ∧ (Blk w B 32 z9 ∨ Blk w B 32 (C9 ⟨X, Y, Q, x, y, z⟩ false false false))
  | 11 => ∃ B, v = .pointer (some ⟨B, 0, none⟩) ∧ n ≤ B ∧ Blk w B 32 (C9 ⟨X, Y, Q, x, y, z⟩ false false false)
  | _ => False
theorem wordE_later {n : Nat} {d0 d1 d2 m : Int} {X Y Q x y z : Int} {vl : Value} {gT i : Nat} (k : Nat) (v : Value) (w w' : World) (h : wordE n d0 d1 d2 m X Y Q x y z vl gT i k v w) (hB : KeepP n ⟨X, Y, Q, x, y, z⟩ w w') : wordE n d0 d1 d2 m X Y Q x y z vl gT i k v w' := by
  match k, h with
  | 0, h => exact h
  | 1, h => exact h
  | 2, h => exact h
  | 3, h => exact h
  | 4, h => exact h
  | 5, h => exact h
  | 6, h => exact h
  | 7, h => exact h
  | 8, h => exact h
  | 9, h => exact h
  | 10, h =>
    obtain ⟨B, e, hn, hk⟩ := h
    exact ⟨B, e, hn, hB.new hn hk⟩
  | 11, h =>
    obtain ⟨B, e, hn, hk⟩ := h
    exact ⟨B, e, hn, hB.nx hn hk⟩
  | n + 12, h => exact h.elim

set_option maxRecDepth 100000 in
set_option maxHeartbeats 16000000 in
theorem reveryP_calls {d0 d1 d2 x y z : Int} {f g h t : Bool} (w : World) (hd : mayD d0 d1 d2) (hu : mayT (x, y, z, f, g, h, t)) :
    Calls Tryz.prog 53 #[A3 d0 d1 d2, V7 x y z f g h t] w fun e W' => ∃ v, e = .returned v ∧ Lp W' w.heap.size v (everyT d0 d1 d2 (turnsT (x, y, z, f, g, h, t))) ∧ Below w.heap.size w W' := by
  have mixed : Tryz.prog.follows .mixedOrders = true := by kernel_rfl
  have hn := N_bd hd
  obtain ⟨N, hN⟩ : ∃ N : Nat, d0 * d1 * d2 = N := ⟨(d0 * d1 * d2).toNat, by omega⟩
  have HTu : Hid (∀ w, Calls Tryz.prog 30 #[V7 x y z f g h t] w fun e W' => ∃ v, e = .returned v ∧ Wl W' w.heap.size v (turnsT (x, y, z, f, g, h, t)) ∧ Below w.heap.size w W') := fun w => turns_calls w (mayT_D.1 hu)
  have HNm : Hid (∀ w, Calls Tryz.prog 22 #[A3 d0 d1 d2] w fun e W' => e = .returned (I N) ∧ Below w.heap.size w W') := fun w => by rw [← hN]; exact rn_calls w hd
  have HWh : Hid (∀ (m : Nat) (w : World), m < N → Calls Tryz.prog 77 #[A3 d0 d1 d2, I m] w fun e W' => e = .returned (A3 (cx d0 m) (cy d0 d1 m) (cz d0 d1 m)) ∧ Below w.heap.size w W') := fun m w h => rwhere_calls w hd ⟨by omega, by rw [hN]; omega⟩
  have HMy : Hid (∀ (b : Bx) (p q r : Bool) (w : World), Calls Tryz.prog 56 #[A3 d0 d1 d2, P9 b p q r] w fun e W' => e = .returned (.bool (mayL d0 d1 d2 (b, p, q, r))) ∧ Below w.heap.size w W') := fun b p q r w => rpmay_calls d0 d1 d2 b p q r w
  have hTs := turns_all hu
  have hT6 := turns_six hu
  have HEnd : Hid (everyT d0 d1 d2 (turnsT (x, y, z, f, g, h, t)) = everyN d0 d1 d2 (turnsT (x, y, z, f, g, h, t)) N) := by
    show _ = _
    unfold everyT everyN
    rw [hN, Int.toNat_natCast]
  clear hu
  generalize everyT d0 d1 d2 (turnsT (x, y, z, f, g, h, t)) = R at *
  generalize turnsT (x, y, z, f, g, h, t) = Ts at *
  have HNx : Hid (∀ m : Nat, everyN d0 d1 d2 Ts (m + 1) = everyN d0 d1 d2 Ts m ++ hereN d0 d1 d2 m Ts Ts.length) := fun m => every_next hTs m
  have HFew : Hid (∀ m : Nat, m < N → (everyN d0 d1 d2 Ts m).length + (hereN d0 d1 d2 m Ts Ts.length).length ≤ 100000) := fun m hm => by
    have h1 := every_few (d0 := d0) (d1 := d1) (d2 := d2) hTs m
    have h2 := here_len d0 d1 d2 m Ts Ts.length
    have h3 : m * Ts.length ≤ 4096 * 6 := Nat.mul_le_mul (by omega) hT6
    omega
  have HSt : Hid (∀ (m i : Nat) (x y z : Int) (f g h t : Bool), i < Ts.length → Ts.getD i default = (x, y, z, f, g, h, t) → ∀ X Y Q, cx d0 m = X → cy d0 d1 m = Y → cz d0 d1 m = Q → ∀ T0 T1 T2, T0 = (f && decide (1 < x)) → T1 = (g && decide (1 < y)) → T2 = (h && decide (1 < z)) →
      (mayL d0 d1 d2 (⟨X, Y, Q, x, y, z⟩, T0, T1, T2) = true → hereN d0 d1 d2 m Ts (i + 1) = putQ (hereN d0 d1 d2 m Ts i) (⟨X, Y, Q, x, y, z⟩, T0, T1, T2)) ∧
      (mayL d0 d1 d2 (⟨X, Y, Q, x, y, z⟩, T0, T1, T2) = false → hereN d0 d1 d2 m Ts (i + 1) = hereN d0 d1 d2 m Ts i)) := by
    rintro m i x y z f g h t hi hu X Y Q rfl rfl rfl T0 T1 T2 rfl rfl rfl
    exact ⟨fun e => here_yes hTs hi hu e, fun e => here_no hi hu e⟩
  have HHl : Hid (∀ m i : Nat, (hereN d0 d1 d2 m Ts i).length ≤ i) := fun m i => here_len d0 d1 d2 m Ts i
  have hTl : Ts.length ≤ 6 := hT6
  have hE0 : everyN d0 d1 d2 Ts 0 = [] := every_zero d0 d1 d2 Ts
  have HH0 : Hid (∀ m : Nat, hereN d0 d1 d2 m Ts 0 = []) := fun m => here_zero d0 d1 d2 m Ts
  have hN2 : (N : Int) ≤ 4096 := by omega
  clear hd hn hN hTs hT6
  generalize everyN d0 d1 d2 Ts = EV at *
  obtain ⟨W, hW, hB0, k0, k1⟩ := two_start w #[I d0, I d1, I d2] #[I x, I y, I z, .bool f, .bool g, .bool h, .bool t] 23 26
  have HW : Hid ((w.alloc (.cells #[I d0, I d1, I d2] 23)).alloc (.cells #[I x, I y, I z, .bool f, .bool g, .bool h, .bool t] 26) = W) := hW
  clear hW
  obtain ⟨s0, s1, s2, s3, s4, s5, s6⟩ := k1.seven
  have sz := k1.lt
  go_enter Tryz.func53, Tryz.ntmps53
  go_wp2_with fail
  rw [HW.out]
  refine (HTu.out _).mono ?_
  rintro e w1 ⟨v, rfl, hT0, hB⟩
  obtain ⟨to, tc, rfl, hvw⟩ := hT0.view
  clear hvw
  have HP1 : Hid (Blk w1 w.heap.size 23 #[I d0, I d1, I d2] ∧ Wl w1 W.heap.size (.slice to Ts.length tc) Ts ∧ Below w.heap.size w w1) := ⟨k0.later hB, hT0, then_below hB0 hB⟩
  clear hT0 hB hB0 k0 k1 s0 s1 s2 s3 s4 s5 s6 sz HW HTu
  generalize W.heap.size = nw at *
  clear W
  go_wp2
  go_loopw [5, 7] (fun u i wr => ∃ (m : Nat), m ≤ N ∧ i = .int .i64 m ∧ Lp wr w1.heap.size u (EV m) ∧ Hid (Below w1.heap.size w1 wr)) (fun _ i _ => N - (RowKit.intOf i).toNat)
  case atStart => exact ⟨0, by omega, rfl, by rw [hE0]; exact Lp.nil _ _, Below.refl _ _⟩
  case round =>
    clear hE0
    obtain ⟨m, hm, rfl, hL, HBw⟩ := hrel
    obtain ⟨lo, lc, rfl, hL2⟩ := hL.form
    have b0 := HP1.out.1.later HBw.out
    obtain ⟨e0, e1, e2, ez⟩ := b0.three (Below.refl _ _)
    clear hL b0
    go_wp2_with fail
    refine (HNm.out _).mono ?_
    rintro e w2 ⟨rfl, hB⟩
    have HR2 : Hid (Lp w2 w1.heap.size (.slice lo (EV m).length lc) (EV m) ∧ Below w1.heap.size w1 w2) := ⟨hL2.later hB, then_below HBw.out hB⟩
    clear e0 e1 e2 ez hL2 hB HBw wr
    by_cases hlt : (m : Int) < (N : Int)
    · have hm2 : m < N := by omega
      have HWm : Hid (∀ w, Calls Tryz.prog 77 #[A3 d0 d1 d2, I m] w fun e W' => e = .returned (A3 (cx d0 m) (cy d0 d1 m) (cz d0 d1 m)) ∧ Below w.heap.size w W') := fun w => HWh.out m w hm2
      have HSm := HSt.out m
      have hH0 := HH0.out m
      have HHm : Hid (∀ i, (hereN d0 d1 d2 m Ts i).length ≤ i) := HHl.out m
      have HNm2 : Hid (EV (m + 1) = EV m ++ hereN d0 d1 d2 m Ts Ts.length) := HNx.out m
      have HFm : Hid ((EV m).length + (hereN d0 d1 d2 m Ts Ts.length).length ≤ 100000) := HFew.out m hm2
      generalize hX : cx d0 m = X at *
      generalize hY : cy d0 d1 m = Y at *
      generalize hQ : cz d0 d1 m = Q at *
      have HSm2 : Hid (∀ (i : Nat) (x y z : Int) (f g h t : Bool), i < Ts.length → Ts.getD i default = (x, y, z, f, g, h, t) → ∀ T0 T1 T2, T0 = (f && decide (1 < x)) → T1 = (g && decide (1 < y)) → T2 = (h && decide (1 < z)) →
          (mayL d0 d1 d2 (⟨X, Y, Q, x, y, z⟩, T0, T1, T2) = true → hereN d0 d1 d2 m Ts (i + 1) = putQ (hereN d0 d1 d2 m Ts i) (⟨X, Y, Q, x, y, z⟩, T0, T1, T2)) ∧
          (mayL d0 d1 d2 (⟨X, Y, Q, x, y, z⟩, T0, T1, T2) = false → hereN d0 d1 d2 m Ts (i + 1) = hereN d0 d1 d2 m Ts i)) := fun i x y z f g h t hi hu T0 T1 T2 h0 h1 h2 => HSm i x y z f g h t hi hu X Y Q rfl rfl rfl T0 T1 T2 h0 h1 h2
      clear HSm hX hY hQ
      generalize hereN d0 d1 d2 m Ts = HV at *
      generalize hgl : (EV m).length = gl at *
      clear hgl
      go_wp2
      go_loopw [8, 9] (fun u i wr => ∃ (i' : Nat), i' ≤ Ts.length ∧ i = .int .i64 i' ∧ Lp wr w1.heap.size u (HV i') ∧ Hid (Lp wr w1.heap.size (.slice lo gl lc) (EV m) ∧ Below w1.heap.size w1 wr)) (fun _ i _ => Ts.length - (RowKit.intOf i).toNat)
      case atStart => exact ⟨0, by omega, rfl, by rw [hH0]; exact Lp.nil _ _, HR2.out⟩
      case round =>
        clear hH0 HR2 w2
        rename World => wr
        obtain ⟨i, hi, rfl, hL, HR⟩ := hrel
        obtain ⟨ho, hc, rfl, hL2⟩ := hL.form
        have HRh : Hid (Lp wr w1.heap.size (.slice ho (HV i).length hc) (HV i)) := hL2
        clear hL hL2
        have hHi : (HV i).length ≤ 100 := Nat.le_trans (HHm.out i) (by omega)
        by_cases hlt2 : (i : Int) < (Ts.length : Int)
        · have hi2 : i < Ts.length := by omega
          obtain ⟨gT, x1, y1, z1, p1, q1, r1, t1, rfl, hx, hat⟩ := Wl.at (HP1.out.2.1.later HR.out.2) hi2
          obtain ⟨T0, hT0⟩ : ∃ T0, T0 = (p1 && decide (1 < x1)) := ⟨_, rfl⟩
          obtain ⟨T1, hT1⟩ : ∃ T1, T1 = (q1 && decide (1 < y1)) := ⟨_, rfl⟩
          obtain ⟨T2, hT2⟩ : ∃ T2, T2 = (r1 && decide (1 < z1)) := ⟨_, rfl⟩
          obtain ⟨hS1, hS0⟩ := HSm2.out i x1 y1 z1 p1 q1 r1 t1 hi2 hx T0 T1 T2 hT0 hT1 hT2
          have HS : Hid ((mayL d0 d1 d2 (⟨X, Y, Q, x1, y1, z1⟩, T0, T1, T2) = true → HV (i + 1) = putQ (HV i) (⟨X, Y, Q, x1, y1, z1⟩, T0, T1, T2)) ∧ (mayL d0 d1 d2 (⟨X, Y, Q, x1, y1, z1⟩, T0, T1, T2) = false → HV (i + 1) = HV i)) := ⟨hS1, hS0⟩
          have HTt : Hid (T0 = (p1 && decide (1 < x1)) ∧ T1 = (q1 && decide (1 < y1)) ∧ T2 = (r1 && decide (1 < z1))) := ⟨hT0, hT1, hT2⟩
          have HAt : Hid (At7 wr gT (i * 7) (x1, y1, z1, p1, q1, r1, t1) ∧ gT < wr.heap.size) := ⟨hat, hat.lt⟩
          have HDm : Hid (Blk wr w.heap.size 23 #[I d0, I d1, I d2]) := HP1.out.1.later HR.out.2
          have HMb : Hid (∀ w, Calls Tryz.prog 56 #[A3 d0 d1 d2, P9 ⟨X, Y, Q, x1, y1, z1⟩ T0 T1 T2] w fun e W' => e = .returned (.bool (mayL d0 d1 d2 (⟨X, Y, Q, x1, y1, z1⟩, T0, T1, T2))) ∧ Below w.heap.size w W') := fun w => HMy.out _ _ _ _ w
          clear hS1 hS0 hT0 hT1 hT2 hx hat
          generalize mayL d0 d1 d2 (⟨X, Y, Q, x1, y1, z1⟩, T0, T1, T2) = ok at *
          generalize hl0 : (HV i).length = hl at *
          clear hl0
          go_wp2_with fail
          refine wp_region_loud5 (w0 := wr) [26, 27, 28, 29, 30, 31, 32, 33, 34, 35, 10, 10] (wordE wr.heap.size d0 d1 d2 m X Y Q x1 y1 z1 (.slice (some ⟨gT, 0, none⟩) Ts.length tc) gT i) (KeepP wr.heap.size ⟨X, Y, Q, x1, y1, z1⟩) mixed (by kernel_rfl) (fun a b c h k => KeepP.trans a b c h k) (KeepP.below ((Below.refl _ wr).drew) (Nat.le_refl _)) wordE_later ?_ ?_
          · intro k op hk act w' hKT hLk hpre
            have hTT := hKT.1
            have hsz : wr.heap.size ≤ w'.heap.size := hTT.size
            have t2 : act.tmps.getD 2 undef = .pointer (some ⟨w.heap.size, 0, none⟩) := by
              rw [Array.getD_eq_getD_getElem?, hLk.out 2 (of_decide_eq_true (by kernel_rfl))]; rfl
            have t6 : act.tmps.getD 6 undef = .slice (some ⟨gT, 0, none⟩) Ts.length tc := by
              rw [Array.getD_eq_getD_getElem?, hLk.out 6 (of_decide_eq_true (by kernel_rfl))]; rfl
            have t7 : act.tmps.getD 7 undef = I (m : Int) := by
              rw [Array.getD_eq_getD_getElem?, hLk.out 7 (of_decide_eq_true (by kernel_rfl))]; rfl
            have t9 : act.tmps.getD 9 undef = I (i : Int) := by
              rw [Array.getD_eq_getD_getElem?, hLk.out 9 (of_decide_eq_true (by kernel_rfl))]; rfl
            obtain ⟨a0, a1, a2, az⟩ := HDm.out.three hTT
            obtain ⟨s0, s1, s2, s3, s4, s5, s6⟩ := (HAt.out.1.later hTT).cells
            have hBw := KeepP.refl wr.heap.size ⟨X, Y, Q, x1, y1, z1⟩ w'
            clear hLk
            match k, hk with
            | 0, hk =>
              obtain rfl := Option.some.inj hk
              refine .inl ⟨A3 d0 d1 d2, w', ?_, rfl, hBw, rfl⟩
              simp [execOp, go_sem, Act.eval, t2, a0, a1, a2]
            | 1, hk =>
              obtain rfl := Option.some.inj hk
              refine .inl ⟨_, w', ?_, rfl, hBw, rfl⟩
              simp [execOp, go_sem, Act.eval, t7]
            | 2, hk =>
              obtain rfl := Option.some.inj hk
              have x0 : act.tmps.getD 26 undef = A3 d0 d1 d2 := hpre ⟨0, .data⟩ (by simp) rfl
              have x2 : act.tmps.getD 27 undef = I (m : Int) := hpre ⟨1, .data⟩ (by simp) rfl
              refine .inr (.inl ⟨77, #[A3 d0 d1 d2, I (m : Int)], ?_, rfl, ?_⟩)
              · simp [go_sem, Act.eval, x0, x2]
              · refine (HWm.out w').mono ?_
                rintro e w'' ⟨rfl, hB⟩
                exact ⟨_, rfl, KeepP.below hB hsz, rfl⟩
            | 3, hk =>
              obtain rfl := Option.some.inj hk
              refine .inl ⟨_, w', ?_, rfl, hBw, rfl⟩
              simp [execOp, go_sem, Act.eval, t6]
            | 4, hk =>
              obtain rfl := Option.some.inj hk
              refine .inl ⟨_, w', ?_, rfl, hBw, rfl⟩
              simp [execOp, go_sem, Act.eval, t9]
            | 5, hk =>
              obtain rfl := Option.some.inj hk
              have x0 : act.tmps.getD 29 undef = .slice (some ⟨gT, 0, none⟩) Ts.length tc := hpre ⟨3, .data⟩ (by simp) rfl
              have x2 : act.tmps.getD 30 undef = I (i : Int) := hpre ⟨4, .data⟩ (by simp) rfl
              refine .inl ⟨.pointer (some ⟨gT, i * 7, none⟩), w', ?_, rfl, hBw, rfl⟩
              simp [execOp, go_sem, Act.eval, x0, x2, hi2]
            | 6, hk =>
              obtain rfl := Option.some.inj hk
              have x0 : act.tmps.getD 31 undef = .pointer (some ⟨gT, i * 7, none⟩) := hpre ⟨5, .data⟩ (by simp) rfl
              refine .inl ⟨.pointer (some ⟨gT, i * 7, none⟩), w', ?_, rfl, hBw, rfl⟩
              simp [execOp, go_sem, Act.eval, x0]
            | 7, hk =>
              obtain rfl := Option.some.inj hk
              have x0 : act.tmps.getD 32 undef = .pointer (some ⟨gT, i * 7, none⟩) := hpre ⟨6, .data⟩ (by simp) rfl
              refine .inl ⟨A3 x1 y1 z1, w', ?_, rfl, hBw, rfl⟩
              simp [execOp, go_sem, Act.eval, x0, s0, s1, s2]
            | 8, hk =>
              obtain rfl := Option.some.inj hk
              have x0 : act.tmps.getD 28 undef = A3 X Y Q := hpre ⟨2, .data⟩ (by simp) rfl
              have x2 : act.tmps.getD 33 undef = A3 x1 y1 z1 := hpre ⟨7, .data⟩ (by simp) rfl
              refine .inl ⟨B6 ⟨X, Y, Q, x1, y1, z1⟩, w', ?_, rfl, hBw, rfl⟩
              rw [Array.getD_eq_getD_getElem?] at x0 x2
              simp [execOp, go_sem, Act.eval, x0, x2]
            | 9, hk =>
              obtain rfl := Option.some.inj hk
              have x0 : act.tmps.getD 34 undef = B6 ⟨X, Y, Q, x1, y1, z1⟩ := hpre ⟨8, .data⟩ (by simp) rfl
              refine .inl ⟨P9 ⟨X, Y, Q, x1, y1, z1⟩ false false false, w', ?_, rfl, hBw, rfl⟩
              rw [Array.getD_eq_getD_getElem?] at x0
              simp [execOp, go_sem, Act.eval, x0]
            | 10, hk =>
              obtain rfl := Option.some.inj hk
              refine .inl ⟨.pointer (some ⟨w'.heap.size, 0, none⟩), w'.alloc (.cells z9 32), ?_, rfl, KeepP.below ((Below.refl _ w').alloc (Nat.le_refl _) _) hsz, w'.heap.size, rfl, hsz, .inl (Blk.new w' _ _)⟩
              simp [execOp, go_sem]
            | 11, hk =>
              obtain rfl := Option.some.inj hk
              have x0 : act.tmps.getD 35 undef = P9 ⟨X, Y, Q, x1, y1, z1⟩ false false false := hpre ⟨9, .data⟩ (by simp) rfl
              obtain ⟨B, x2, hnB, hkB⟩ : ∃ B, act.tmps.getD 10 undef = .pointer (some ⟨B, 0, none⟩) ∧ wr.heap.size ≤ B ∧ (Blk w' B 32 z9 ∨ Blk w' B 32 (C9 ⟨X, Y, Q, x1, y1, z1⟩ false false false)) := hpre ⟨10, .data⟩ (by simp) rfl
              obtain ⟨w'', hrun, hkp, hnx⟩ := store_pl hnB hkB
              refine .inr (.inr ⟨w'', ?_, rfl, hkp, B, x2, hnB, hnx⟩)
              rw [Array.getD_eq_getD_getElem?] at x0 x2
              simp [execOp, Act.eval, x0, x2, hrun, Result.andThen]
            | n + 12, hk => simp at hk
          · intro vs w5 hT5 hsame hall
            have hse := hsame 10 11 rfl
            clear hsame
            obtain ⟨Bn, h8, hn9, kn⟩ : ∃ B, vs 11 = .pointer (some ⟨B, 0, none⟩) ∧ wr.heap.size ≤ B ∧ Blk w5 B 32 (C9 ⟨X, Y, Q, x1, y1, z1⟩ false false false) := hall 11 (of_decide_eq_true (by kernel_rfl))
            have h89 : vs 10 = vs 11 := hse
            rw [h8] at h89
            clear hall hse
            simp only [List.length_cons, List.length_nil, Nat.zero_add, Nat.reduceAdd, List.range, List.range.loop, List.foldl_cons, List.foldl_nil, dst5, List.getElem?_cons_zero, List.getElem?_cons_succ, Act.put, List.setIfInBounds_toArray, List.set_cons_succ, List.set_cons_zero, h89]
            clear h89 h8
            generalize vs 0 = y00
            generalize vs 1 = y01
            generalize vs 2 = y02
            generalize vs 3 = y03
            generalize vs 4 = y04
            generalize vs 5 = y05
            generalize vs 6 = y06
            generalize vs 7 = y07
            generalize vs 8 = y08
            generalize vs 9 = y09
            clear vs
            have HK : Hid (Blk w5 Bn 32 (C9 ⟨X, Y, Q, x1, y1, z1⟩ (tN 0 0 T0) (tN 0 1 T1) (tN 0 2 T2)) ∧ Below wr.heap.size wr w5) := ⟨kn, hT5.1⟩
            have HBn : Hid (wr.heap.size ≤ Bn) := hn9
            clear kn hT5 hn9
            go_wp2
            go_loopw [11] (fun v w6 => ∃ (k : Nat), k ≤ 3 ∧ v = .int .i64 k ∧ Hid (Blk w6 Bn 32 (C9 ⟨X, Y, Q, x1, y1, z1⟩ (tN k 0 T0) (tN k 1 T1) (tN k 2 T2)) ∧ Below wr.heap.size wr w6)) (fun v _ => 3 - (RowKit.intOf v).toNat)
            case atStart => exact ⟨0, by omega, rfl, HK.out⟩
            case round =>
              clear HK w5
              rename World => w6
              obtain ⟨k, hk, rfl, HK⟩ := hrel
              rcases show k = 0 ∨ k = 1 ∨ k = 2 ∨ k = 3 by omega with rfl | rfl | rfl | rfl
              · obtain ⟨s0, s1, s2, s3, s4, s5, s6⟩ := (HAt.out.1.later HK.out.2).cells
                have sz : gT < w6.heap.size := (HAt.out.1.later HK.out.2).lt
                have g0 := HK.out.1.frozen 6
                have c0 := HK.out.1.cell 6
                have zk := HK.out.1.lt
                simp at c0
                cases hp : p1
                · have HK2 : Hid (Blk (w6.setCell ⟨Bn, 6, none⟩ (.bool false)) Bn 32 (C9 ⟨X, Y, Q, x1, y1, z1⟩ (tN 1 0 T0) (tN 1 1 T1) (tN 1 2 T2)) ∧ Below wr.heap.size wr (w6.setCell ⟨Bn, 6, none⟩ (.bool false))) := by
                    have e : T0 = false := by rw [HTt.out.1, hp]; rfl
                    have h9 := HK.out.1.set 6 (.bool false)
                    rw [e] at h9 ⊢
                    exact ⟨h9, HK.out.2.setCell (p := ⟨Bn, 6, none⟩) HBn.out _⟩
                  rw [hp] at s3
                  clear hp
                  go_wp2
                  exact ⟨⟨1, by omega, by go_num, HK2.out⟩, by simp [RowKit.intOf]⟩
                · have HK2 : Hid (Blk (w6.setCell ⟨Bn, 6, none⟩ (.bool (decide (1 < x1)))) Bn 32 (C9 ⟨X, Y, Q, x1, y1, z1⟩ (tN 1 0 T0) (tN 1 1 T1) (tN 1 2 T2)) ∧ Below wr.heap.size wr (w6.setCell ⟨Bn, 6, none⟩ (.bool (decide (1 < x1))))) := by
                    have e : T0 = decide (1 < x1) := by rw [HTt.out.1, hp]; rfl
                    have h9 := HK.out.1.set 6 (.bool (decide (1 < x1)))
                    rw [e] at h9 ⊢
                    exact ⟨h9, HK.out.2.setCell (p := ⟨Bn, 6, none⟩) HBn.out _⟩
                  rw [hp] at s3
                  clear hp
                  go_wp2
                  exact ⟨⟨1, by omega, by go_num, HK2.out⟩, by simp [RowKit.intOf]⟩
              · obtain ⟨s0, s1, s2, s3, s4, s5, s6⟩ := (HAt.out.1.later HK.out.2).cells
                have sz : gT < w6.heap.size := (HAt.out.1.later HK.out.2).lt
                have g1 := HK.out.1.frozen 7
                have c1 := HK.out.1.cell 7
                have zk := HK.out.1.lt
                simp at c1
                cases hp : q1
                · have HK2 : Hid (Blk (w6.setCell ⟨Bn, 7, none⟩ (.bool false)) Bn 32 (C9 ⟨X, Y, Q, x1, y1, z1⟩ (tN 2 0 T0) (tN 2 1 T1) (tN 2 2 T2)) ∧ Below wr.heap.size wr (w6.setCell ⟨Bn, 7, none⟩ (.bool false))) := by
                    have e : T1 = false := by rw [HTt.out.2.1, hp]; rfl
                    have h9 := HK.out.1.set 7 (.bool false)
                    rw [e] at h9 ⊢
                    exact ⟨h9, HK.out.2.setCell (p := ⟨Bn, 7, none⟩) HBn.out _⟩
                  rw [hp] at s4
                  clear hp
                  go_wp2
                  exact ⟨⟨2, by omega, by go_num, HK2.out⟩, by simp [RowKit.intOf]⟩
                · have HK2 : Hid (Blk (w6.setCell ⟨Bn, 7, none⟩ (.bool (decide (1 < y1)))) Bn 32 (C9 ⟨X, Y, Q, x1, y1, z1⟩ (tN 2 0 T0) (tN 2 1 T1) (tN 2 2 T2)) ∧ Below wr.heap.size wr (w6.setCell ⟨Bn, 7, none⟩ (.bool (decide (1 < y1))))) := by
                    have e : T1 = decide (1 < y1) := by rw [HTt.out.2.1, hp]; rfl
                    have h9 := HK.out.1.set 7 (.bool (decide (1 < y1)))
                    rw [e] at h9 ⊢
                    exact ⟨h9, HK.out.2.setCell (p := ⟨Bn, 7, none⟩) HBn.out _⟩
                  rw [hp] at s4
                  clear hp
                  go_wp2
                  exact ⟨⟨2, by omega, by go_num, HK2.out⟩, by simp [RowKit.intOf]⟩
              · obtain ⟨s0, s1, s2, s3, s4, s5, s6⟩ := (HAt.out.1.later HK.out.2).cells
                have sz : gT < w6.heap.size := (HAt.out.1.later HK.out.2).lt
                have g2 := HK.out.1.frozen 8
                have c2 := HK.out.1.cell 8
                have zk := HK.out.1.lt
                simp at c2
                cases hp : r1
                · have HK2 : Hid (Blk (w6.setCell ⟨Bn, 8, none⟩ (.bool false)) Bn 32 (C9 ⟨X, Y, Q, x1, y1, z1⟩ (tN 3 0 T0) (tN 3 1 T1) (tN 3 2 T2)) ∧ Below wr.heap.size wr (w6.setCell ⟨Bn, 8, none⟩ (.bool false))) := by
                    have e : T2 = false := by rw [HTt.out.2.2, hp]; rfl
                    have h9 := HK.out.1.set 8 (.bool false)
                    rw [e] at h9 ⊢
                    exact ⟨h9, HK.out.2.setCell (p := ⟨Bn, 8, none⟩) HBn.out _⟩
                  rw [hp] at s5
                  clear hp
                  go_wp2
                  exact ⟨⟨3, by omega, by go_num, HK2.out⟩, by simp [RowKit.intOf]⟩
                · have HK2 : Hid (Blk (w6.setCell ⟨Bn, 8, none⟩ (.bool (decide (1 < z1)))) Bn 32 (C9 ⟨X, Y, Q, x1, y1, z1⟩ (tN 3 0 T0) (tN 3 1 T1) (tN 3 2 T2)) ∧ Below wr.heap.size wr (w6.setCell ⟨Bn, 8, none⟩ (.bool (decide (1 < z1))))) := by
                    have e : T2 = decide (1 < z1) := by rw [HTt.out.2.2, hp]; rfl
                    have h9 := HK.out.1.set 8 (.bool (decide (1 < z1)))
                    rw [e] at h9 ⊢
                    exact ⟨h9, HK.out.2.setCell (p := ⟨Bn, 8, none⟩) HBn.out _⟩
                  rw [hp] at s5
                  clear hp
                  go_wp2
                  exact ⟨⟨3, by omega, by go_num, HK2.out⟩, by simp [RowKit.intOf]⟩
              · have HK3 : Hid (Blk w6 Bn 32 (C9 ⟨X, Y, Q, x1, y1, z1⟩ T0 T1 T2) ∧ Below wr.heap.size wr w6) := HK.out
                clear HK
                obtain ⟨a0, a1, a2, az⟩ := HDm.out.three HK3.out.2
                obtain ⟨⟨f0, f1, f2⟩, ⟨f3, f4, f5⟩, ⟨f6, f7, f8⟩, fz⟩ := HK3.out.1.nine (Below.refl _ _)
                go_wp2_with fail
                refine (HMb.out _).mono ?_
                rintro e w7 ⟨rfl, hB⟩
                have HK4 : Hid (Blk w7 Bn 32 (C9 ⟨X, Y, Q, x1, y1, z1⟩ T0 T1 T2) ∧ Below wr.heap.size wr w7) := ⟨HK3.out.1.later hB, then_below HK3.out.2 hB⟩
                clear HK3 hB a0 a1 a2 az f0 f1 f2 f3 f4 f5 f6 f7 f8 fz w6
                cases ok
                · have HF : Hid (Lp w7 w1.heap.size (.slice ho hl hc) (HV (i + 1)) ∧ Lp w7 w1.heap.size (.slice lo gl lc) (EV m) ∧ Below w1.heap.size w1 w7) := by
                    rw [HS.out.2 (by trivial)]
                    exact ⟨HRh.out.later HK4.out.2, HR.out.1.later HK4.out.2, then_below HR.out.2 HK4.out.2⟩
                  clear HK4 HRh HR
                  go_wp2
                  exact ⟨⟨i + 1, by omega, by go_num, HF.out.1, HF.out.2⟩, by simp [RowKit.intOf]; omega⟩
                · have HPu : Hid (Calls Tryz.prog 31 #[.slice ho hl hc, P9 ⟨X, Y, Q, x1, y1, z1⟩ T0 T1 T2] w7 fun e W' => ∃ v, e = .returned v ∧ Lp W' w1.heap.size v (HV (i + 1)) ∧ Below w7.heap.size w7 W') := by
                    rw [HS.out.1 (by trivial)]
                    exact pputs_calls w7 (HRh.out.later HK4.out.2) (Nat.le_trans HR.out.2.size HK4.out.2.size) (by have := HRh.out.len; omega)
                  obtain ⟨⟨f0, f1, f2⟩, ⟨f3, f4, f5⟩, ⟨f6, f7, f8⟩, fz⟩ := HK4.out.1.nine (Below.refl _ _)
                  have HF : Hid (Lp w7 w1.heap.size (.slice lo gl lc) (EV m) ∧ Below w1.heap.size w1 w7) := ⟨HR.out.1.later HK4.out.2, then_below HR.out.2 HK4.out.2⟩
                  clear HK4 HRh HR
                  go_wp2_with fail
                  refine HPu.out.mono ?_
                  rintro e w8 ⟨v8, rfl, hv8, hB⟩
                  have HF2 : Hid (Lp w8 w1.heap.size v8 (HV (i + 1)) ∧ Lp w8 w1.heap.size (.slice lo gl lc) (EV m) ∧ Below w1.heap.size w1 w8) := ⟨hv8, HF.out.1.later hB, then_below HF.out.2 hB⟩
                  clear HF hv8 hB f0 f1 f2 f3 f4 f5 f6 f7 f8 fz HPu
                  go_wp2
                  exact ⟨⟨i + 1, by omega, by go_num, HF2.out.1, HF2.out.2⟩, by simp [RowKit.intOf]; omega⟩
        · obtain rfl : i = Ts.length := by omega
          have hlo := HR.out.1
          have hho := HRh.out
          have hfew : (EV m).length + (HV Ts.length).length ≤ 100000 := by have h1 := HFm.out; have h2 := hlo.len; omega
          have hbz : w1.heap.size ≤ wr.heap.size := HR.out.2.size
          have HBk : Hid (Below w1.heap.size w1 wr) := HR.out.2
          clear HR HRh
          generalize hl0 : (HV Ts.length).length = hl at *
          clear hl0
          go_wp2_with (at_builtin; refine wpList_catP rfl _ _ rfl rfl rfl hlo hho (by have := hho.len; omega) hbz ?_; intro ao11 n11 cap11 w11 hL11 hB11)
          exact ⟨⟨m + 1, by omega, by go_num, by rw [HNm2.out]; exact hL11, HBk.out.trans hB11⟩, by simp [RowKit.intOf]; omega⟩
    · obtain rfl : m = N := by omega
      have HF : Hid (Lp w2 w1.heap.size (.slice lo (EV m).length lc) R ∧ Below w.heap.size w w2) := by
        rw [HEnd.out]
        exact ⟨HR2.out.1, then_below HP1.out.2.2 HR2.out.2⟩
      have HSz : Hid (w.heap.size ≤ w1.heap.size) := HP1.out.2.2.size
      clear HR2
      generalize (EV m).length = gl at *
      go_wp2
      go_ret
      exact ⟨_, rfl, HF.out.1.weak HSz.out, HF.out.2⟩

end Go.Proofs.YtlahfffgmfjpaaaGreatDoor

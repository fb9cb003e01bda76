/-
  The statement SpotsTurns, walked.
-/
import Derived.Test.YtlahfffgmfjpaaaGreatDoorPart30
import Derived.Test.YtlahfffgmfjpaaaGreatDoorPart1
import Derived.Test.YtlahfffgmfjpaaaGreatDoorRows
import Derived.ProofKit
import Derived.OpenShut
import Derived.ChangeOld
import Derived.Below
import Derived.Laws.IdiomArrays
import Derived.ChangeSlices
namespace Go.Proofs.YtlahfffgmfjpaaaGreatDoor
open Go Go.RowKit Go.Shelf Go.Maps

attribute [local go_sem] Oper.semAt_some ext_const ixI0 ixI1 ixI2
attribute [local go_sem high] eq_place

/-- What the walk keeps: the machine, the list, its rotations, the list of one of them, what is found. -/
structure TuPv (w : World) (d0 d1 d2 : Int) (n1 n2 n3 : Nat) (vl vt vm : Value) (L : List Pl) (Ts : List Wt) (M : List Pl) (gF : Nat) (F : List Bool) (W : World) : Prop where
  below : Below w.heap.size w W
  d : Blk W w.heap.size 23 #[I d0, I d1, I d2]
  l : Lp W n1 vl L
  t : Wl W n2 vt Ts
  m : Lp W n3 vm M
  f : Blk W gF 4 (F.map Value.bool).toArray
  g : w.heap.size < gF
theorem TuPv.later {w : World} {d0 d1 d2 : Int} {n1 n2 n3 : Nat} {vl vt vm : Value} {L : List Pl} {Ts : List Wt} {M : List Pl} {gF : Nat} {F : List Bool} {W W' : World} (h : TuPv w d0 d1 d2 n1 n2 n3 vl vt vm L Ts M gF F W) (hb : Below W.heap.size W W') : TuPv w d0 d1 d2 n1 n2 n3 vl vt vm L Ts M gF F W' :=
  ⟨then_below h.below hb, h.d.later hb, h.l.later hb, h.t.later hb, h.m.later hb, h.f.later hb, h.g⟩
theorem TuPv.put {w : World} {d0 d1 d2 : Int} {n1 n2 n3 : Nat} {vl vt vm : Value} {L : List Pl} {Ts : List Wt} {M : List Pl} {gF : Nat} {F : List Bool} {W : World} (h : TuPv w d0 d1 d2 n1 n2 n3 vl vt vm L Ts M gF F W) (j : Nat) : TuPv w d0 d1 d2 n1 n2 n3 vl vt vm L Ts M gF (F.set j true) (W.setCell ⟨gF, j, none⟩ (.bool true)) :=
  ⟨h.below.setCell (p := ⟨gF, j, none⟩) (Nat.le_of_lt h.g) _, h.d.other j _ (Nat.ne_of_lt h.g), h.l.set h.f (by decide) j _, h.t.set h.f (by decide) j _, h.m.set h.f (by decide) j _, blk_putF h.f j true, h.g⟩
/-- What is asked for is found. -/
def FOk (L : List Pl) (F : List Bool) (c : Nat → Prop) : Prop := F.length = L.length ∧ ∀ j, j < L.length → c j → F.getD j false = true
theorem FOk.weak {L : List Pl} {F : List Bool} {c c' : Nat → Prop} (h : FOk L F c) (hc : ∀ j, j < L.length → c' j → c j) : FOk L F c' := ⟨h.1, fun j hj k => h.2 j hj (hc j hj k)⟩
theorem FOk.set {L : List Pl} {F : List Bool} {c : Nat → Prop} (h : FOk L F c) (i : Nat) {c' : Nat → Prop} (hc : ∀ j, j < L.length → j ≠ i → c' j → c j) : FOk L (F.set i true) c' := ⟨by rw [List.length_set]; exact h.1, fun j hj k => by
  by_cases e : j = i
  · subst e
    have : j < F.length := by rw [h.1]; exact hj
    simp [this]
  · rw [List.getD_eq_getElem?_getD, List.getElem?_set_ne (Ne.symm e), ← List.getD_eq_getElem?_getD]
    exact h.2 j hj (hc j hj e k)⟩
/-- Is a place one of the first n? -/
def thT (L : List Pl) (x : Pl) (n : Nat) : Bool := (List.range n).any fun j => eqP (L.getD j zP) x
theorem thT_succ (L : List Pl) (x : Pl) (n : Nat) : thT L x (n + 1) = (thT L x n || eqP (L.getD n zP) x) := by simp [thT, List.range_succ]
theorem thT_all {L : List Pl} {x : Pl} (h : x ∈ L) : thT L x L.length = true := by
  obtain ⟨j, hj, e⟩ := List.getElem_of_mem h
  unfold thT
  rw [List.any_eq_true]
  exact ⟨j, List.mem_range.2 hj, by rw [show L.getD j zP = x by simp [hj, e]]; exact eqP_self x⟩
theorem cellF {W : World} {g : Nat} {F : List Bool} (h : Blk W g 4 (F.map Value.bool).toArray) {j : Nat} (hj : j < F.length) : W.cell? ⟨g, j, none⟩ = some (.bool (F.getD j false)) := by
  rw [h.cell j]
  simp [hj]
theorem insT_len (w : Wt) (l : List Wt) : (insT w l).length = l.length + 1 := by
  induction l with
  | nil => rfl
  | cons x l ih =>
    unfold insT
    split
    · rfl
    · simp [ih]
theorem putT_few (l : List Wt) (w : Wt) : (putT l w).length ≤ l.length + 1 := by
  unfold putT
  split
  · omega
  · rw [insT_len]; omega
theorem turns_few (w : Wt) : (turnsT w).length ≤ 1000 := by
  unfold turnsT
  split
  · have h : ∀ (xs acc : List Wt), (xs.foldl putT acc).length ≤ acc.length + xs.length := fun xs => by
      induction xs with
      | nil => intro acc; simp
      | cons x xs ih =>
        intro acc
        have := ih (putT acc x)
        have := putT_few acc x
        simp only [List.foldl_cons, List.length_cons]
        omega
    have := h (others w) [w]
    simp [others] at this ⊢
    omega
  · simp
/-- The words of the region that asks for the places of a rotation. -/
def wordTu (d0 d1 d2 : Int) (u vt va vb : Value) (i gT : Nat) (L : List Pl) (k : Nat) (v : Value) (w : World) : Prop :=
  match k with
  | 0 => v = A3 d0 d1 d2
  | 1 => v = vt
  | 2 => v = I (i : Int)
  | 3 => v = .pointer (some ⟨gT, i * 7, none⟩)
  | 4 => v = u
  | 5 => v = va
  | 6 => v = vb
  | 7 => ∃ x, v = .tuple #[x, I 0] ∧ Lp w 0 x L
  | 8 => ∃ x, v = .tuple #[x, I 0] ∧ Lp w 0 x L
  | 9 => Lp w 0 v L
  | 10 => v = I 0
  | 11 => Lp w 0 v L
  | 12 => v = I 0
  | _ => False
theorem wordTu_later {d0 d1 d2 : Int} {u vt va vb : Value} {i gT : Nat} {L : List Pl} (k : Nat) (v : Value) (w w' : World) (h : wordTu d0 d1 d2 u vt va vb i gT L k v w) (hB : Below w.heap.size w w') : wordTu d0 d1 d2 u vt va vb i gT L k v w' := by
  match k, h with
  | 0, h => exact h
  | 1, h => exact h
  | 2, h => exact h
  | 3, h => exact h
  | 4, h => exact h
  | 5, h => exact h
  | 6, h => exact h
  | 7, h => obtain ⟨x, e, k⟩ := h; exact ⟨x, e, Lp.later k hB⟩
  | 8, h => obtain ⟨x, e, k⟩ := h; exact ⟨x, e, Lp.later k hB⟩
  | 9, h => exact Lp.later h hB
  | 10, h => exact h
  | 11, h => exact Lp.later h hB
  | 12, h => exact h
  | n + 13, h => exact h.elim

set_option maxRecDepth 100000 in
set_option maxHeartbeats 16000000 in
theorem spotsTurns_walk {d0 d1 d2 x y z : Int} {f g h t : Bool} {vm vl : Value} {mw lw : List Nat} (w : World) (hO : OrdOk w) (hM : Wds w vm mw) (hL : Wds w vl lw) :
    Calls Tryz.prog 4 #[A3 d0 d1 d2, V7 x y z f g h t, vm, vl] w fun e W' => e = .returned (.bool true) ∧ Below w.heap.size w W' := by
  have mixed : Tryz.prog.follows .mixedOrders = true := by kernel_rfl
  have HO : Hid (OrdOk w) := hO
  have HA : Hid (∀ w1, OrdOk w1 → Calls Tryz.prog 13 #[] w1 fun e W' => e = .returned (.bool true) ∧ Below w1.heap.size w1 W') := fun w1 h => alive12_calls w1 h
  have HS : Hid (∀ w1, Calls Tryz.prog 5 #[A3 d0 d1 d2] w1 fun e W' => e = .returned (.bool (smB d0 d1 d2)) ∧ Below w1.heap.size w1 W') := fun w1 => small12_calls d0 d1 d2 w1
  have HAl : Hid (∀ w1, Below w.heap.size w w1 → Calls Tryz.prog 6 #[A3 d0 d1 d2, V7 x y z f g h true, vm, vl] w1 fun e W' => ∃ v, e = .returned (.tuple #[v, I (alE d0 d1 d2 (x, y, z, f, g, h, true) mw lw)]) ∧ Lp W' w1.heap.size v (alL d0 d1 d2 (x, y, z, f, g, h, true) mw lw) ∧ Below w1.heap.size w1 W') := fun w1 h => sall_calls (u := (_, _, _, _, _, _, true)) w1 (hO.later h) (hM.later h) (hL.later h)
  have HAx : Hid (∀ (x y z : Int) (f g h t : Bool) w1, Below w.heap.size w w1 → Calls Tryz.prog 6 #[A3 d0 d1 d2, V7 x y z f g h t, vm, vl] w1 fun e W' => ∃ v, e = .returned (.tuple #[v, I (alE d0 d1 d2 (x, y, z, f, g, h, t) mw lw)]) ∧ Lp W' w1.heap.size v (alL d0 d1 d2 (x, y, z, f, g, h, t) mw lw) ∧ Below w1.heap.size w1 W') := fun x y z f g h t w1 hb => sall_calls (u := (x, y, z, f, g, h, t)) w1 (hO.later hb) (hM.later hb) (hL.later hb)
  have HTu : Hid (∀ w1, Below w.heap.size w w1 → Calls Tryz.prog 14 #[V7 x y z f g h true] w1 fun e W' => ∃ v er, e = .returned (.tuple #[v, I er]) ∧ (alE d0 d1 d2 (x, y, z, f, g, h, true) mw lw = 0 → er = 0 ∧ Wl W' w1.heap.size v (turnsT (x, y, z, f, g, h, true))) ∧ Below w1.heap.size w1 W') := fun w1 hb => by
    by_cases hm : mayD x y z
    · refine (all_yes w1 (hO.later hb) hm).mono ?_
      rintro e W' ⟨v, rfl, hv, hB⟩
      exact ⟨v, 0, rfl, fun _ => ⟨rfl, hv⟩, hB⟩
    · refine (all_no w1 hm).mono ?_
      rintro e W' ⟨rfl, hB⟩
      refine ⟨_, 8, rfl, fun h0 => ?_, hB⟩
      rcases alE_cases d0 d1 d2 (x, y, z, f, g, h, true) mw lw with ⟨_, h2, _⟩ | h8
      · exact absurd (mayT_D.1 h2) hm
      · rw [h8] at h0; exact absurd h0 (by decide)
  have HOk : Hid (alE d0 d1 d2 (x, y, z, f, g, h, true) mw lw = 0 → TurnsOk d0 d1 d2 (x, y, z, f, g, h, true) mw lw) := fun h0 => by
    rcases alE_cases d0 d1 d2 (x, y, z, f, g, h, true) mw lw with ⟨h1, h2, h3, _⟩ | h8
    · exact turns_ok rfl h1 h2 h3
    · rw [h8] at h0; exact absurd h0 (by decide)
  have HNo : Hid (alE d0 d1 d2 (x, y, z, f, g, h, true) mw lw ≠ 0 → alL d0 d1 d2 (x, y, z, f, g, h, true) mw lw = []) := fun h => by rw [alL, if_neg h]
  have HLn : Hid ((alL d0 d1 d2 (x, y, z, f, g, h, true) mw lw).length ≤ 24576) := al_len
  have HMn : Hid (∀ u, (alL d0 d1 d2 u mw lw).length ≤ 24576) := fun u => al_len
  have HTn : Hid ((turnsT (x, y, z, f, g, h, true)).length ≤ 1000) := turns_few _
  obtain ⟨am, cm, rfl, _⟩ := hM.view
  obtain ⟨al, cl, rfl, _⟩ := hL.view
  clear hO hM hL
  generalize mw.length = nm at *
  generalize lw.length = nl at *
  generalize smB d0 d1 d2 = sm at *
  obtain ⟨W, hW, hB0, k0, k1⟩ := two_start w #[I d0, I d1, I d2] #[I x, I y, I z, .bool f, .bool g, .bool h, .bool t] 23 26
  have HW : Hid ((w.alloc (.cells #[I d0, I d1, I d2] 23)).alloc (.cells #[I x, I y, I z, .bool f, .bool g, .bool h, .bool t] 26) = W) := hW
  clear hW
  go_enter Tryz.func4, Tryz.ntmps4
  go_wp2_with fail
  rw [HW.out]
  refine (HA.out _ (HO.out.later hB0)).mono ?_
  rintro e w1 ⟨rfl, hB⟩
  have hT := then_below hB0 hB
  replace k0 := k0.later hB
  replace k1 := k1.later hB
  clear hB HW hB0
  by_cases q1 : (100 : Int) < (nm : Int)
  · go_wp2
    go_ret
    exact ⟨rfl, hT⟩
  have g1 : decide ((100 : Int) < (nm : Int)) = false := by simpa using q1
  by_cases q2 : (100 : Int) < (nl : Int)
  · go_wp2
    go_ret
    exact ⟨rfl, hT⟩
  have g2 : decide ((100 : Int) < (nl : Int)) = false := by simpa using q2
  obtain ⟨a0, a1, a2, az⟩ := k0.three (Below.refl _ _)
  go_wp2_with fail
  refine (HS.out _).mono ?_
  rintro e w2 ⟨rfl, hB⟩
  replace hT := then_below hT hB
  replace k0 := k0.later hB
  replace k1 := k1.later hB
  clear hB a0 a1 a2 az W
  cases sm
  · go_wp2
    go_ret
    exact ⟨rfl, hT⟩
  obtain ⟨a0, a1, a2, az⟩ := k0.three (Below.refl _ _)
  obtain ⟨s0, s1, s2, s3, s4, s5, s6⟩ := k1.seven
  have f6 := k1.frozen 6
  have sz := k1.lt
  have hX : Below w.heap.size w (w2.setCell ⟨w.heap.size + 1, 6, none⟩ (.bool true)) := hT.setCell (p := ⟨w.heap.size + 1, 6, none⟩) (by show w.heap.size ≤ w.heap.size + 1; omega) _
  have k1s : Blk (w2.setCell ⟨w.heap.size + 1, 6, none⟩ (.bool true)) (w.heap.size + 1) 26 #[I x, I y, I z, .bool f, .bool g, .bool h, .bool true] := k1.set 6 (.bool true)
  have k0s := k0.other (B' := w.heap.size + 1) 6 (.bool true) (by omega)
  go_wp2_with fail
  refine (HAl.out _ hX).mono ?_
  rintro e w3 ⟨v, rfl, hLp0, hB⟩
  replace hT := then_below hX hB
  replace k0 := k0s.later hB
  replace k1 := k1s.later hB
  clear hB a0 a1 a2 az s0 s1 s2 s3 s4 s5 s6 sz HA HS HAl hX k0s k1s f6
  obtain ⟨lo, lc, rfl, hLp⟩ := hLp0.form
  clear hLp0
  generalize hsz : (w2.setCell ⟨w.heap.size + 1, 6, none⟩ (.bool true)).heap.size = n1 at hLp
  clear hsz w2
  obtain ⟨s0, s1, s2, s3, s4, s5, s6⟩ := k1.seven
  have sz := k1.lt
  go_wp2_with fail
  refine (HTu.out _ hT).mono ?_
  rintro e w4 ⟨vt, er2, rfl, hTw, hB⟩
  replace hT := then_below hT hB
  replace k0 := k0.later hB
  replace hLp := hLp.later hB
  clear hB s0 s1 s2 s3 s4 s5 s6 sz HTu k1
  generalize hEr : alE d0 d1 d2 (x, y, z, f, g, h, true) mw lw = er at *
  by_cases he : er = 0
  · subst he
    obtain ⟨rfl, hWl⟩ := hTw rfl
    have hok := HOk.out rfl
    clear hTw HNo hEr HOk
    obtain ⟨Ms, hMs⟩ : ∃ Ms : Nat → List Pl, Ms = fun i => alL d0 d1 d2 (offT ((turnsT (x, y, z, f, g, h, true)).getD i default)) mw lw := ⟨_, rfl⟩
    have hmem : ∀ i, i < (turnsT (x, y, z, f, g, h, true)).length → (turnsT (x, y, z, f, g, h, true)).getD i default ∈ turnsT (x, y, z, f, g, h, true) := fun i hi => by simp [hi]
    have HRo : Hid (∀ (i : Nat) (a b c : Int) (p q r s : Bool), i < (turnsT (x, y, z, f, g, h, true)).length → (turnsT (x, y, z, f, g, h, true)).getD i default = (a, b, c, p, q, r, s) →
        (∀ w1, Below w.heap.size w w1 → Calls Tryz.prog 6 #[A3 d0 d1 d2, V7 a b c p q r false, .slice am nm cm, .slice al nl cl] w1 fun e W' => ∃ v, e = .returned (.tuple #[v, I 0]) ∧ Lp W' w1.heap.size v (Ms i) ∧ Below w1.heap.size w1 W') ∧
        (∀ w1, Below w.heap.size w w1 → Calls Tryz.prog 6 #[A3 d0 d1 d2, V7 a b c p q r s, .slice am nm cm, .slice al nl cl] w1 fun e W' => ∃ v, e = .returned (.tuple #[v, I 0]) ∧ Lp W' w1.heap.size v (alL d0 d1 d2 (x, y, z, f, g, h, true) mw lw) ∧ Below w1.heap.size w1 W')) := fun i a b c p q r s hi hx => by
      obtain ⟨h1, h2, h3⟩ := hok.one _ (hmem i hi)
      have hMi : Ms i = alL d0 d1 d2 (a, b, c, p, q, r, false) mw lw := by rw [hMs]; show alL d0 d1 d2 (offT _) mw lw = _; rw [hx]; rfl
      rw [hx] at h1 h2 h3
      have h3' : alE d0 d1 d2 (a, b, c, p, q, r, false) mw lw = 0 := h3
      refine ⟨fun w1 hb => ?_, fun w1 hb => ?_⟩
      · have := HAx.out a b c p q r false w1 hb
        rw [h3', ← hMi] at this
        exact this
      · have := HAx.out a b c p q r s w1 hb
        rw [h1, h2] at this
        exact this
    have HSub : Hid (∀ i, i < (turnsT (x, y, z, f, g, h, true)).length → ∀ p ∈ Ms i, p ∈ alL d0 d1 d2 (x, y, z, f, g, h, true) mw lw) := fun i hi p hp => by
      rw [hMs] at hp
      exact hok.sub _ (hmem i hi) p hp
    have HSup : Hid (∀ p ∈ alL d0 d1 d2 (x, y, z, f, g, h, true) mw lw, ∃ i, i < (turnsT (x, y, z, f, g, h, true)).length ∧ p ∈ Ms i) := fun p hp => by
      obtain ⟨u, hu, hp⟩ := hok.sup p hp
      obtain ⟨i, hi, e⟩ := List.getElem_of_mem hu
      refine ⟨i, hi, ?_⟩
      rw [hMs]
      show p ∈ alL d0 d1 d2 (offT _) mw lw
      rw [show (turnsT (x, y, z, f, g, h, true)).getD i default = u by simp [hi, e]]
      exact hp
    have HMl : Hid (∀ i, (Ms i).length ≤ 24576) := fun i => by rw [hMs]; exact HMn.out _
    clear hok hmem hMs HAx HMn
    generalize alL d0 d1 d2 (x, y, z, f, g, h, true) mw lw = L at *
    generalize turnsT (x, y, z, f, g, h, true) = Ts at *
    have hLl : L.length ≤ 24576 := HLn.out
    obtain ⟨to, tc, rfl, hvw⟩ := hWl.view
    clear hvw
    generalize w3.heap.size = n2 at *
    go_wp2_with (at_make; refine wpList_mkF rfl _ _ rfl L.length rfl rfl (by omega) ?_; intro w5 hK hT5)
    have hgF := k0.lt
    have pv : TuPv w d0 d1 d2 n1 n2 0 (.slice lo L.length lc) (.slice to Ts.length tc) (.slice none 0 0) L Ts [] w4.heap.size (List.replicate L.length false) w5 := ⟨then_below hT hT5, k0.later hT5, hLp.later hT5, hWl.later hT5, Lp.nil _ _, hK, hgF⟩
    have HF0 : Hid (FOk L (List.replicate L.length false) fun j => ∃ i, i < 0 ∧ L.getD j zP ∈ Ms i) := ⟨by simp, fun j hj ⟨i, hi, _⟩ => absurd hi (Nat.not_lt_zero i)⟩
    clear k0 hT hT5 hLp hWl hK w3 hgF
    generalize w4.heap.size = gF at *
    generalize List.replicate L.length false = F0 at *
    go_loopw [15] (fun i wr => ∃ (k : Nat) (F : List Bool), k ≤ Ts.length ∧ i = .int .i64 k ∧ Hid (FOk L F fun j => ∃ i, i < k ∧ L.getD j zP ∈ Ms i) ∧ TuPv w d0 d1 d2 n1 n2 0 (.slice lo L.length lc) (.slice to Ts.length tc) (.slice none 0 0) L Ts [] gF F wr) (fun i _ => Ts.length - (RowKit.intOf i).toNat)
    case atStart => exact ⟨0, F0, by omega, rfl, HF0.out, pv⟩
    case round =>
      clear pv HF0 w4 w5
      obtain ⟨i, F, hi, rfl, HF, pv⟩ := hrel
      have hTl : Ts.length ≤ 1000 := HTn.out
      by_cases hlt : (i : Int) < (Ts.length : Int)
      · have hi2 : i < Ts.length := by omega
        obtain ⟨gT, a, b, c, p, q, r, s, rfl, hx, hat⟩ := Wl.at pv.t hi2
        obtain ⟨hR1, hR2⟩ := HRo.out i a b c p q r s hi2 hx
        have HR1 : Hid (∀ w1, Below w.heap.size w w1 → Calls Tryz.prog 6 #[A3 d0 d1 d2, V7 a b c p q r false, .slice am nm cm, .slice al nl cl] w1 fun e W' => ∃ v, e = .returned (.tuple #[v, I 0]) ∧ Lp W' w1.heap.size v (Ms i) ∧ Below w1.heap.size w1 W') := hR1
        have HR2 : Hid (∀ w1, Below w.heap.size w w1 → Calls Tryz.prog 6 #[A3 d0 d1 d2, V7 a b c p q r s, .slice am nm cm, .slice al nl cl] w1 fun e W' => ∃ v, e = .returned (.tuple #[v, I 0]) ∧ Lp W' w1.heap.size v L ∧ Below w1.heap.size w1 W') := hR2
        have HSi : Hid (∀ p ∈ Ms i, p ∈ L) := HSub.out i hi2
        have hMl := HMl.out i
        have HFn : Hid (∀ F', FOk L F' (fun j => (∃ i', i' < i ∧ L.getD j zP ∈ Ms i') ∨ L.getD j zP ∈ Ms i) → FOk L F' fun j => ∃ i', i' < i + 1 ∧ L.getD j zP ∈ Ms i') := fun F' hF' => hF'.weak fun j hj ⟨i', h1, h2⟩ => by
          by_cases e : i' = i
          · subst e; exact .inr h2
          · exact .inl ⟨i', by omega, h2⟩
        have HF1 : Hid (FOk L F fun j => (∃ i', i' < i ∧ L.getD j zP ∈ Ms i') ∨ L.getD j zP ∈ (Ms i).take 0) := HF.out.weak fun j hj h => h.elim id fun h => by simp at h
        generalize hOld : (fun j => ∃ i', i' < i ∧ L.getD j zP ∈ Ms i') = Old at *
        have hO2 : ∀ j, (∃ i', i' < i ∧ L.getD j zP ∈ Ms i') = Old j := fun j => by rw [← hOld]
        simp only [hO2] at HFn HF1
        clear hR1 hR2 hx HF hOld hO2
        generalize Ms i = M at *
        obtain ⟨a0, a1, a2, az⟩ := pv.d.three (Below.refl _ _)
        obtain ⟨s0, s1, s2, s3, s4, s5, s6⟩ := hat.cells
        have sz := hat.lt
        have HAt : Hid (At7 wr gT (i * 7) (a, b, c, p, q, r, s)) := hat
        clear hat
        have hBa : Below wr.heap.size wr (wr.alloc (.cells #[I a, I b, I c, .bool p, .bool q, .bool r, .bool false] 26)) := (Below.refl _ wr).alloc (Nat.le_refl _) _
        go_wp2_with fail
        refine (HR1.out _ (pv.below.trans (hBa.mono pv.below.size))).mono ?_
        rintro e w6 ⟨mv, rfl, hMp0, hB⟩
        obtain ⟨mo, mc, rfl, hMp⟩ := hMp0.form
        have hBB := then_below hBa hB
        have pv6 : TuPv w d0 d1 d2 n1 n2 0 (.slice lo L.length lc) (.slice (some ⟨gT, 0, none⟩) Ts.length tc) (.slice mo M.length mc) L Ts M gF F w6 := ⟨then_below pv.below hBB, pv.d.later hBB, pv.l.later hBB, pv.t.later hBB, hMp.weak (Nat.zero_le _), pv.f.later hBB, pv.g⟩
        have HAt6 : Hid (At7 w6 gT (i * 7) (a, b, c, p, q, r, s)) := HAt.out.later hBB
        clear hMp0 hMp hB hBB hBa pv HAt a0 a1 a2 az s0 s1 s2 s3 s4 s5 s6 sz HR1
        generalize wr.heap.size = gx at *
        clear wr
        go_wp2_with fail
        refine wp_region_loud2 (w0 := w6) (wordTu d0 d1 d2 (V7 a b c p q r s) (.slice (some ⟨gT, 0, none⟩) Ts.length tc) (.slice am nm cm) (.slice al nl cl) i gT L) mixed (by kernel_rfl) wordTu_later ?_ ?_
        · intro k op hk act w' hTT hL hpre
          have t2 : act.tmps.getD 2 undef = .slice am nm cm := by
            rw [Array.getD_eq_getD_getElem?, hL.out 2 (of_decide_eq_true (by kernel_rfl))]; rfl
          have t3 : act.tmps.getD 3 undef = .slice al nl cl := by
            rw [Array.getD_eq_getD_getElem?, hL.out 3 (of_decide_eq_true (by kernel_rfl))]; rfl
          have t4 : act.tmps.getD 4 undef = .pointer (some ⟨w.heap.size, 0, none⟩) := by
            rw [Array.getD_eq_getD_getElem?, hL.out 4 (of_decide_eq_true (by kernel_rfl))]; rfl
          have t12 : act.tmps.getD 12 undef = .slice (some ⟨gT, 0, none⟩) Ts.length tc := by
            rw [Array.getD_eq_getD_getElem?, hL.out 12 (of_decide_eq_true (by kernel_rfl))]; rfl
          have t15 : act.tmps.getD 15 undef = I (i : Int) := by
            rw [Array.getD_eq_getD_getElem?, hL.out 15 (of_decide_eq_true (by kernel_rfl))]; rfl
          obtain ⟨a0, a1, a2, az⟩ := pv6.d.three hTT
          obtain ⟨s0, s1, s2, s3, s4, s5, s6⟩ := (HAt6.out.later hTT).cells
          have hBw := Below.refl w'.heap.size w'
          clear hL
          match k, hk with
          | 0, hk =>
            obtain rfl := Option.some.inj hk
            refine .inl ⟨A3 d0 d1 d2, w', ?_, hBw, rfl⟩
            simp [execOp, go_sem, Act.eval, t4, a0, a1, a2]
          | 1, hk =>
            obtain rfl := Option.some.inj hk
            refine .inl ⟨_, w', ?_, hBw, rfl⟩
            simp [execOp, go_sem, Act.eval, t12]
          | 2, hk =>
            obtain rfl := Option.some.inj hk
            refine .inl ⟨_, w', ?_, hBw, rfl⟩
            simp [execOp, go_sem, Act.eval, t15]
          | 3, hk =>
            obtain rfl := Option.some.inj hk
            have x0 : act.tmps.getD 91 undef = .slice (some ⟨gT, 0, none⟩) Ts.length tc := hpre ⟨1, .data⟩ (by simp) rfl
            have x1 : act.tmps.getD 92 undef = I (i : Int) := hpre ⟨2, .data⟩ (by simp) rfl
            refine .inl ⟨.pointer (some ⟨gT, i * 7, none⟩), w', ?_, hBw, rfl⟩
            simp [execOp, go_sem, Act.eval, x0, x1, hi2]
          | 4, hk =>
            obtain rfl := Option.some.inj hk
            have x0 : act.tmps.getD 93 undef = .pointer (some ⟨gT, i * 7, none⟩) := hpre ⟨3, .data⟩ (by simp) rfl
            refine .inl ⟨V7 a b c p q r s, w', ?_, hBw, rfl⟩
            simp [execOp, go_sem, Act.eval, x0, s0, s1, s2, s3, s4, s5, s6]
          | 5, hk =>
            obtain rfl := Option.some.inj hk
            refine .inl ⟨_, w', ?_, hBw, rfl⟩
            simp [execOp, go_sem, Act.eval, t2]
          | 6, hk =>
            obtain rfl := Option.some.inj hk
            refine .inl ⟨_, w', ?_, hBw, rfl⟩
            simp [execOp, go_sem, Act.eval, t3]
          | 7, hk =>
            obtain rfl := Option.some.inj hk
            have x0 : act.tmps.getD 90 undef = A3 d0 d1 d2 := hpre ⟨0, .data⟩ (by simp) rfl
            have x1 : act.tmps.getD 94 undef = V7 a b c p q r s := hpre ⟨4, .data⟩ (by simp) rfl
            have x2 : act.tmps.getD 95 undef = .slice am nm cm := hpre ⟨5, .data⟩ (by simp) rfl
            have x3 : act.tmps.getD 96 undef = .slice al nl cl := hpre ⟨6, .data⟩ (by simp) rfl
            refine .inr ⟨6, #[A3 d0 d1 d2, V7 a b c p q r s, .slice am nm cm, .slice al nl cl], ?_, ?_⟩
            · simp [go_sem, Act.eval, x0, x1, x2, x3]
            · refine (HR2.out w' (then_below pv6.below hTT)).mono ?_
              rintro e w'' ⟨v, rfl, hv, hB⟩
              exact ⟨_, rfl, hB, v, rfl, hv.weak (Nat.zero_le _)⟩
          | 8, hk =>
            obtain rfl := Option.some.inj hk
            obtain ⟨v, x0, hv⟩ : ∃ v, act.tmps.getD 97 undef = .tuple #[v, I 0] ∧ Lp w' 0 v L := hpre ⟨7, .data⟩ (by simp) rfl
            refine .inl ⟨.tuple #[v, I 0], w', ?_, hBw, v, rfl, hv⟩
            simp [execOp, go_sem, Act.eval, x0]
          | 9, hk =>
            obtain rfl := Option.some.inj hk
            obtain ⟨v, x0, hv⟩ : ∃ v, act.tmps.getD 89 undef = .tuple #[v, I 0] ∧ Lp w' 0 v L := hpre ⟨8, .data⟩ (by simp) rfl
            refine .inl ⟨v, w', ?_, hBw, hv⟩
            simp [execOp, go_sem, Act.eval, x0]
          | 10, hk =>
            obtain rfl := Option.some.inj hk
            obtain ⟨v, x0, hv⟩ : ∃ v, act.tmps.getD 89 undef = .tuple #[v, I 0] ∧ Lp w' 0 v L := hpre ⟨8, .data⟩ (by simp) rfl
            refine .inl ⟨I 0, w', ?_, hBw, rfl⟩
            simp [execOp, go_sem, Act.eval, x0]
          | 11, hk =>
            obtain rfl := Option.some.inj hk
            have x0 : Lp w' 0 (act.tmps.getD 98 undef) L := hpre ⟨9, .data⟩ (by simp) rfl
            refine .inl ⟨act.tmps.getD 98 undef, w', ?_, hBw, x0⟩
            simp [execOp, go_sem, Act.eval]
          | 12, hk =>
            obtain rfl := Option.some.inj hk
            have x0 : act.tmps.getD 99 undef = I 0 := hpre ⟨10, .data⟩ (by simp) rfl
            refine .inl ⟨I 0, w', ?_, hBw, rfl⟩
            simp [execOp, go_sem, Act.eval, x0]
          | n + 13, hk => simp at hk
        · intro vs w9 hT9 hall
          have z11 : Lp w9 0 (vs 11) L := hall 11 (of_decide_eq_true (by kernel_rfl))
          have z12 : vs 12 = I 0 := hall 12 (of_decide_eq_true (by kernel_rfl))
          clear hall
          simp only [List.length_cons, List.length_nil, Nat.zero_add, Nat.reduceAdd, List.range, List.range.loop, List.foldl_cons, List.foldl_nil, dstOf, List.getElem?_cons_zero, List.getElem?_cons_succ, Option.getD_some, Act.put, List.setIfInBounds_toArray, List.set_cons_succ, List.set_cons_zero, z12]
          clear z12
          generalize vs 11 = lv at *
          obtain ⟨yo, yc, rfl, z12⟩ := z11.form
          clear z11
          generalize vs 0 = y0
          generalize vs 1 = y1
          generalize vs 2 = y2
          generalize vs 3 = y3
          generalize vs 4 = y4
          generalize vs 5 = y5
          generalize vs 6 = y6
          generalize vs 7 = y7
          generalize vs 8 = y8
          generalize vs 9 = y9
          generalize vs 10 = y10
          clear vs
          have pv9 := pv6.later hT9
          clear hT9 pv6 HAt6 HR2
          have HSm : Hid (Calls Tryz.prog 12 #[.slice yo L.length yc, .slice lo L.length lc] w9 fun e W' => e = .returned (.bool true) ∧ Below w9.heap.size w9 W') := by
            have := sameP_calls w9 z12 pv9.l (by omega)
            rw [sameP_self] at this
            exact this
          clear z12
          go_wp2_with fail
          refine HSm.out.mono ?_
          rintro e w10 ⟨rfl, hB⟩
          have pv10 := pv9.later hB
          clear HSm hB pv9 w9
          go_wp2
          go_loopw [21] (fun v wr => ∃ (k : Nat) (F : List Bool), k ≤ M.length ∧ v = .int .i64 k ∧ Hid (FOk L F fun j => Old j ∨ L.getD j zP ∈ M.take k) ∧ TuPv w d0 d1 d2 n1 n2 0 (.slice lo L.length lc) (.slice (some ⟨gT, 0, none⟩) Ts.length tc) (.slice mo M.length mc) L Ts M gF F wr) (fun v _ => M.length - (RowKit.intOf v).toNat)
          case atStart => exact ⟨0, F, by omega, rfl, HF1.out, pv10⟩
          case round =>
            clear pv10 HF1 F w10
            rename World => wr
            obtain ⟨k, F, hk, rfl, HF, pv⟩ := hrel
            by_cases hltk : (k : Int) < (M.length : Int)
            · have hk2 : k < M.length := by omega
              obtain ⟨gM, b2, p2, q2, r2, rfl, hx2, hatM⟩ := pv.m.at hk2
              have HAtM : Hid (∀ W', Lp W' 0 (.slice (some ⟨gM, 0, none⟩) M.length mc) M → At9 W' gM (k * 9) (b2, p2, q2, r2)) := fun W' hL' => by
                obtain ⟨g2, b', p', q', r', hao2, hy2, hat2⟩ := hL'.at hk2
                rw [hx2] at hy2
                simp only [Prod.mk.injEq] at hy2
                obtain ⟨rfl, rfl, rfl, rfl⟩ := hy2
                have : gM = g2 := by simpa using hao2
                rw [this]
                exact hat2
              have hxM : (b2, p2, q2, r2) ∈ M := by rw [← hx2]; simp [hk2]
              have HTh : Hid (thT L (b2, p2, q2, r2) L.length = true) := thT_all (HSi.out _ hxM)
              have HTs : Hid (∀ n, thT L (b2, p2, q2, r2) (n + 1) = (thT L (b2, p2, q2, r2) n || eqP (L.getD n zP) (b2, p2, q2, r2))) := thT_succ L _
              have HT0 : Hid (thT L (b2, p2, q2, r2) 0 = false) := rfl
              have HFi : Hid (FOk L F fun j => (Old j ∨ L.getD j zP ∈ M.take k) ∨ (j < 0 ∧ L.getD j zP = (b2, p2, q2, r2))) := HF.out.weak fun j hj h => h.elim id fun h => absurd h.1 (Nat.not_lt_zero j)
              have HFo : Hid (∀ F', FOk L F' (fun j => (Old j ∨ L.getD j zP ∈ M.take k) ∨ (j < L.length ∧ L.getD j zP = (b2, p2, q2, r2))) → FOk L F' fun j => Old j ∨ L.getD j zP ∈ M.take (k + 1)) := fun F' hF' => hF'.weak fun j hj h => by
                rcases h with h | h
                · exact .inl (.inl h)
                · rw [List.take_succ_eq_append_getElem hk2, List.mem_append, List.mem_singleton] at h
                  rcases h with h | h
                  · exact .inl (.inr h)
                  · refine .inr ⟨hj, ?_⟩
                    rw [h, ← hx2]
                    simp [hk2]
              clear hatM hx2 hxM HF
              generalize hCk : (fun j => Old j ∨ L.getD j zP ∈ M.take k) = Ck at *
              have hC2 : ∀ j, (Old j ∨ L.getD j zP ∈ M.take k) = Ck j := fun j => by rw [← hCk]
              simp only [hC2] at HFi HFo
              clear hCk hC2
              generalize hth : thT L (b2, p2, q2, r2) = th at *
              clear hth
              go_wp2
              go_loopw [22, 23] (fun u v wr => ∃ (j : Nat) (F : List Bool), j ≤ L.length ∧ v = .int .i64 j ∧ u = .bool (th j) ∧ Hid (FOk L F fun j' => Ck j' ∨ (j' < j ∧ L.getD j' zP = (b2, p2, q2, r2))) ∧ TuPv w d0 d1 d2 n1 n2 0 (.slice lo L.length lc) (.slice (some ⟨gT, 0, none⟩) Ts.length tc) (.slice (some ⟨gM, 0, none⟩) M.length mc) L Ts M gF F wr) (fun _ v _ => L.length - (RowKit.intOf v).toNat)
              case atStart => exact ⟨0, F, by omega, rfl, by rw [HT0.out], HFi.out, pv⟩
              case round =>
                clear pv HFi F HT0
                rename World => wr
                obtain ⟨j, F, hj, rfl, rfl, HF, pv⟩ := hrel
                by_cases hltj : (j : Int) < (L.length : Int)
                · have hj2 : j < L.length := by omega
                  obtain ⟨gL, b1, p1, q1, r1, rfl, hx1, hatL⟩ := pv.l.at hj2
                  have hatM := HAtM.out wr pv.m
                  obtain ⟨x0, x1, x2, x3, x4, x5, x6, x7, x8⟩ := hatL.ext
                  obtain ⟨y0, y1, y2, y3, y4, y5, y6, y7, y8⟩ := hatM.ext
                  have HTj : Hid (th (j + 1) = (th j || eqP (b1, p1, q1, r1) (b2, p2, q2, r2))) := by
                    have := HTs.out j
                    rw [hx1] at this
                    exact this
                  have HEq : Hid (eqP (b1, p1, q1, r1) (b2, p2, q2, r2) = false → L.getD j zP ≠ (b2, p2, q2, r2)) := fun h e => by
                    rw [hx1] at e
                    rw [e, eqP_self] at h
                    cases h
                  obtain ⟨s2, hs2⟩ : ∃ s2, eqP (b1, p1, q1, r1) (b2, p2, q2, r2) = s2 := ⟨_, rfl⟩
                  rw [hs2] at HTj HEq
                  generalize th j = tj at *
                  clear hatL hatM hx1
                  go_wp2_with fail
                  refine wp_region_look mixed (by kernel_rfl) ?_
                  repeat (go_big_quiet_step (fail))
                  refine wpQuiet_nil ?_
                  intro X
                  have pv2 := pv.later X.le
                  try rw [hs2]
                  clear pv x0 x1 x2 x3 x4 x5 x6 x7 x8 y0 y1 y2 y3 y4 y5 y6 y7 y8 hs2
                  generalize X.wd = w9 at *
                  clear X
                  have hFl : j < F.length := by rw [HF.out.1]; exact hj2
                  cases s2
                  · have HTn2 : Hid (th (j + 1) = tj) := by
                      show _ = _
                      rw [HTj.out]
                      simp
                    have HFn2 : Hid (FOk L F fun j' => Ck j' ∨ (j' < j + 1 ∧ L.getD j' zP = (b2, p2, q2, r2))) := HF.out.weak fun j' _ h => h.elim .inl fun h => .inr ⟨by
                      by_cases e : j' = j
                      · subst e; exact absurd h.2 (HEq.out rfl)
                      · omega, h.2⟩
                    clear HTj HEq HF
                    go_wp2
                    exact ⟨⟨j + 1, F, by omega, by go_num, by rw [HTn2.out], HFn2.out, pv2⟩, by simp [RowKit.intOf]; omega⟩
                  · have HTn2 : Hid (th (j + 1) = true) := by
                      show _ = _
                      rw [HTj.out]
                      simp
                    have HFn2 : Hid (FOk L (F.set j true) fun j' => Ck j' ∨ (j' < j + 1 ∧ L.getD j' zP = (b2, p2, q2, r2))) := HF.out.set j fun j' _ hne h => h.elim .inl fun h => .inr ⟨by omega, h.2⟩
                    have hcF := cellF pv2.f hFl
                    have hfF := pv2.f.frozen j
                    have hzF := pv2.f.lt
                    have HP3 : Hid (TuPv w d0 d1 d2 n1 n2 0 (.slice (some ⟨gL, 0, none⟩) L.length lc) (.slice (some ⟨gT, 0, none⟩) Ts.length tc) (.slice (some ⟨gM, 0, none⟩) M.length mc) L Ts M gF (F.set j true) (w9.setCell ⟨gF, j, none⟩ (.bool true))) := pv2.put j
                    generalize F.getD j false = fj at hcF
                    clear HTj HEq HF pv2
                    go_wp2
                    exact ⟨⟨j + 1, F.set j true, by omega, by go_num, by rw [HTn2.out], HFn2.out, HP3.out⟩, by simp [RowKit.intOf]; omega⟩
                · obtain rfl : j = L.length := by omega
                  have hT1 : th L.length = true := HTh.out
                  have HFn2 := HFo.out F HF.out
                  have HFn2 : Hid (FOk L F fun j => Old j ∨ L.getD j zP ∈ M.take (k + 1)) := HFn2
                  rw [hT1]
                  clear hT1 HF
                  go_wp2
                  exact ⟨⟨k + 1, F, by omega, by go_num, HFn2.out, pv⟩, by simp [RowKit.intOf]; omega⟩
            · obtain rfl : k = M.length := by omega
              have hfin := HF.out
              rw [List.take_length] at hfin
              have HFin : Hid (FOk L F fun j => ∃ i', i' < i + 1 ∧ L.getD j zP ∈ Ms i') := HFn.out F hfin
              have HP3 : Hid (TuPv w d0 d1 d2 n1 n2 0 (.slice lo L.length lc) (.slice (some ⟨gT, 0, none⟩) Ts.length tc) (.slice none 0 0) L Ts [] gF F wr) := ⟨pv.below, pv.d, pv.l, pv.t, Lp.nil _ _, pv.f, pv.g⟩
              clear hfin HF pv
              go_wp2
              exact ⟨⟨i + 1, F, by omega, by go_num, HFin.out, HP3.out⟩, by simp [RowKit.intOf]; omega⟩
      · obtain rfl : i = Ts.length := by omega
        have HFa : Hid (∀ j, j < L.length → F.getD j false = true) := fun j hj => HF.out.2 j hj (HSup.out _ (by simp [hj]))
        have HFl : Hid (F.length = L.length) := HF.out.1
        clear HF HRo HSub HSup HMl
        go_wp2
        go_loopw [24] (fun v wr => ∃ (k : Nat), k ≤ L.length ∧ v = .int .i64 k ∧ TuPv w d0 d1 d2 n1 n2 0 (.slice lo L.length lc) (.slice to Ts.length tc) (.slice none 0 0) L Ts [] gF F wr) (fun v _ => L.length - (RowKit.intOf v).toNat)
        case atStart => exact ⟨0, by omega, rfl, pv⟩
        case round =>
          clear pv
          rename World => wr
          obtain ⟨k, hk, rfl, pv⟩ := hrel
          by_cases hltk : (k : Int) < (L.length : Int)
          · have hk2 : k < L.length := by omega
            have hcF := cellF pv.f (show k < F.length by rw [HFl.out]; exact hk2)
            rw [HFa.out k hk2] at hcF
            have hzF := pv.f.lt
            have HP : Hid (TuPv w d0 d1 d2 n1 n2 0 (.slice lo L.length lc) (.slice to Ts.length tc) (.slice none 0 0) L Ts [] gF F wr) := pv
            clear pv
            go_wp2
            exact ⟨⟨k + 1, by omega, by go_num, HP.out⟩, by simp [RowKit.intOf]; omega⟩
          · have HE : Hid (Below w.heap.size w wr) := pv.below
            clear pv
            go_wp2
            go_ret
            exact ⟨rfl, HE.out⟩
  · have hE0 : decide (er = 0) = false := by simpa using he
    have hE1 : (er != 0) = true := by simpa using he
    have hnil := HNo.out he
    rw [hnil]
    rw [hnil] at HLn hLp
    clear hTw HOk hLp hnil HNo
    go_wp2
    go_ret
    exact ⟨rfl, hT⟩

theorem spotsTurns_run (d0 d1 d2 x y z : Int) (f g h t : Bool) {vm vl : Value} {mw lw : List Nat} (w : World) (hO : OrdOk w) (hM : ArgW w vm mw) (hL : ArgW w vl lw) :
    Calls Tryz.prog 4 #[A3 d0 d1 d2, V7 x y z f g h t, vm, vl] w fun e W' => e = .returned (.bool true) ∧ Below w.heap.size w W' := spotsTurns_walk w hO hM.1 hL.1

end Go.Proofs.YtlahfffgmfjpaaaGreatDoor

/-
  How the arguments of this seat's statements are opened: whole numbers, and rows of three of them.
-/
namespace Go.Proofs.YtlahfffgmfjpaaaGreatDoor
open Go.ChangeShapes Go.WideShapes Go.ChangeAt Go.RowKit

theorem own : ownKnob Tryz.prog.godebug = none := by kernel_rfl
theorem laidOut : laidOutB Tryz.prog = true := by kernel_rfl

theorem list3 {α : Type} (l : List α) (h : (⟨l⟩ : Array α).size = 3) : ∃ a b c, l = [a, b, c] := by
  match l, h with
  | [a, b, c], _ => exact ⟨a, b, c, rfl⟩

/-- A row of three whole numbers, by value. -/
theorem open_arr3 {P : Program} {w : World} {H : Type} {enc : TypeId × Value → H} {r : Reach} {b0 base : Nat} {spare : Nat → Bool} {held : Bool} {t e : TypeId} {v : Value} {d : DataW H} {p : List MemPlace}
    (ht : P.underlying t = some (.array 3 e)) (he : P.underlying e = some (.int .i64)) (hce : P.cellsOf e = 1) (hct : P.cellsOf t = 3)
    (hv : Value.okWide P w r b0 t v) (h : DataW.Trod enc P w base spare held t v d p) :
    ∃ a b c : Int, v = A3 a b c ∧ (Lit.int .i64 a).wf = true ∧ (Lit.int .i64 b).wf = true ∧ (Lit.int .i64 c).wf = true := by
  obtain ⟨cs, rfl, hsz, _⟩ : ∃ cs, v = .agg cs ∧ cs.size = P.cellsOf t ∧ Row.okWide P w r b0 t cs := by
    simpa [Value.okWide, ht] using hv
  rw [hct] at hsz
  obtain ⟨l⟩ := cs
  obtain ⟨c0, c1, c2, rfl⟩ := list3 l hsz
  obtain ⟨fuel, hf⟩ := h
  obtain ⟨y0, y1, y2, m, hx, hy0, hy1, hy2⟩ := trod_array3 ht hce hf
  obtain ⟨x0, e0, rfl, w0⟩ := DataW.trod_int he hy0
  obtain ⟨x1, e1, rfl, w1⟩ := DataW.trod_int he hy1
  obtain ⟨x2, e2, rfl, w2⟩ := DataW.trod_int he hy2
  simp at e0 e1 e2
  subst e0 e1 e2
  exact ⟨x0, x1, x2, rfl, w0, w1, w2⟩

theorem open_num {P : Program} {w : World} {H : Type} {enc : TypeId × Value → H} {r : Reach} {b0 base : Nat} {spare : Nat → Bool} {held : Bool} {t : TypeId} {k : IntKind} {v : Value} {d : DataW H} {p : List MemPlace}
    (ht : P.underlying t = some (.int k)) (hv : Value.okWide P w r b0 t v) (h : DataW.Trod enc P w base spare held t v d p) :
    ∃ a : Int, v = .int k a ∧ (Lit.int k a).wf = true := by
  obtain ⟨x, rfl, rfl, rfl, wx⟩ := open_int ht hv h
  exact ⟨x, rfl, wx⟩

theorem trod_lt' {H : Type} {enc : TypeId × Value → H} {P : Program} {W : World} {t : TypeId} {v : Value} {d : DataW H} {ps : List MemPlace} {sp : Nat → Bool} (h : DataW.Trod enc P W 0 sp true t v d ps) : ∀ x ∈ ps, x.block < W.heap.size := by
  obtain ⟨m, hm⟩ := h; exact DataW.trod_lt m _ _ _ hm

end Go.Proofs.YtlahfffgmfjpaaaGreatDoor

/-
  How a set, and a list of whole numbers, among a statement's arguments is opened.
-/
namespace Go.Proofs.YtlahfffgmfjpaaaGreatDoor
open Go Go.ChangeShapes Go.WideShapes Go.ChangeAt Go.RowKit

theorem spot_none {w : World} {a : Addr} {v : Value} (h : w.cell? a = some v) : a.spot = none := by
  unfold World.cell? at h
  split at h
  · split at h
    · cases h
    · rename_i hs
      cases hq : a.spot
      · rfl
      · rw [hq] at hs; exact absurd rfl hs
  · cases h
theorem block_lt {w : World} {a : Addr} {v : Value} (h : w.cell? a = some v) : a.block < w.heap.size := by
  unfold World.cell? at h
  split at h
  · rename_i hs
    exact (Array.getElem?_eq_some_iff.1 hs).1
  · cases h

set_option maxRecDepth 100000 in
/-- A slice of numbers of one kind, as it came in. -/
theorem open_row_of {P : Program} {w : World} {H : Type} {enc : TypeId × Value → H} {r : Reach} {b0 base : Nat} {spare : Nat → Bool} {held : Bool} {t e : TypeId} {k : IntKind} {v : Value} {d : DataW H} {p : List MemPlace}
    (ht : P.underlying t = some (.slice e)) (he : P.underlying e = some (.int k)) (hc : P.cellsOf e = 1)
    (hv : Value.okWide P w r b0 t v) (h : DataW.Trod enc P w base spare held t v d p) :
    ∃ zs : List Int, (∀ z ∈ zs, (Lit.int k z).wf = true) ∧ Sl w v (zs.map (Value.int k)) ∧ (v = .slice none 0 0 ∧ zs = [] ∨ ∃ ad cap, v = .slice (some ad) zs.length cap) := by
  obtain ⟨a, len, cap, rfl⟩ := okWide_slice ht hv
  obtain ⟨fuel, hf⟩ := h
  rcases open_ints ht he hc hf with ⟨hcs, -⟩ | ⟨a0, len0, cap0, zs, hcs, _, hl, _, hz, _, hcell, hwf⟩
  · have e0 : Value.slice a len cap = .slice none 0 0 := by
      have : [Value.slice a len cap] = [.slice none 0 0] := hcs
      exact List.head_eq_of_cons_eq this
    rw [e0]
    exact ⟨[], fun _ h => (by cases h), Sl.nil w, .inl ⟨rfl, rfl⟩⟩
  · have e0 : Value.slice a len cap = .slice (some a0) len0 cap0 := by
      have : [Value.slice a len cap] = [.slice (some a0) len0 cap0] := hcs
      exact List.head_eq_of_cons_eq this
    rw [e0]
    have hlz : len0 ≤ zs.length := by rw [hz]; split <;> omega
    have hlt : (zs.take len0).length = len0 := by simp [hlz]
    refine ⟨zs.take len0, fun z hz' => hwf z (List.mem_of_mem_take hz'), ⟨some a0, cap0, by simp [hlz], fun i hi => ?_⟩, .inr ⟨a0, cap0, by rw [hlt]⟩⟩
    rw [List.length_map, hlt] at hi
    have hi2 : i < zs.length := by omega
    have c0 := hcell i hi2
    have cc := hcell 0 (by omega)
    obtain ⟨g, off, sp⟩ := a0
    have hs : sp = none := by
      have := spot_none cc
      simpa [Addr.add] using this
    subst hs
    have ea : (⟨g, off, none⟩ : Addr).add i = ⟨g, off + i, none⟩ := by
      unfold Addr.add
      split
      · rename_i h0; subst h0; rfl
      · rfl
    rw [ea] at c0
    exact ⟨g, off, rfl, block_lt c0, by rw [c0]; simp [hi, hi2]⟩

theorem word_of {z : Int} (h : (Lit.int .u64 z).wf = true) : 0 ≤ z ∧ z < 18446744073709551616 := by
  unfold Lit.wf at h
  simp [IntKind.min, IntKind.max, IntKind.signed, IntKind.bits] at h
  omega

set_option maxRecDepth 100000 in
theorem open_set {w : World} {H : Type} {enc : TypeId × Value → H} {r : Reach} {b0 base : Nat} {spare : Nat → Bool} {held : Bool} {v : Value} {d : DataW H} {p : List MemPlace}
    (hv : Value.okWide Tryz.prog w r b0 28 v) (h : DataW.Trod enc Tryz.prog w base spare held 28 v d p) : ∃ ws : List Nat, ArgW w v ws := by
  obtain ⟨zs, hw, hs, hc⟩ := open_row_of Tryz.underlying28 Tryz.underlying129 (by kernel_rfl) hv h
  have e : (zs.map Int.toNat).map U = zs.map (Value.int .u64) := by
    rw [List.map_map]
    apply List.map_congr_left
    intro z hz
    have := word_of (hw z hz)
    show Value.int .u64 ((z.toNat : Nat) : Int) = _
    rw [Int.toNat_of_nonneg this.1]
  refine ⟨zs.map Int.toNat, ⟨fun x hx => ?_, by rw [e]; exact hs⟩, ?_⟩
  · obtain ⟨z, hz, rfl⟩ := List.mem_map.1 hx
    have := word_of (hw z hz)
    omega
  · rcases hc with ⟨rfl, _⟩ | ⟨ad, cap, rfl⟩
    · exact .inl rfl
    · exact .inr ⟨ad, cap, by simp⟩

set_option maxRecDepth 100000 in
theorem open_list {w : World} {H : Type} {enc : TypeId × Value → H} {r : Reach} {b0 base : Nat} {spare : Nat → Bool} {held : Bool} {v : Value} {d : DataW H} {p : List MemPlace}
    (hv : Value.okWide Tryz.prog w r b0 158 v) (h : DataW.Trod enc Tryz.prog w base spare held 158 v d p) : ∃ xs : List Int, ArgI w v xs ∧ ∀ x ∈ xs, (Lit.int .i64 x).wf = true := by
  obtain ⟨zs, hw, hs, hc⟩ := open_row_of Tryz.underlying158 Tryz.underlying3 (by kernel_rfl) hv h
  refine ⟨zs, ⟨hs, ?_⟩, hw⟩
  rcases hc with ⟨rfl, _⟩ | h
  · exact .inl rfl
  · exact .inr h

end Go.Proofs.YtlahfffgmfjpaaaGreatDoor

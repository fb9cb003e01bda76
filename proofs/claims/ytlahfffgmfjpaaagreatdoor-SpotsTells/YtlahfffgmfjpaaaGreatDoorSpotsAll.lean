/-
  spots.All.
-/
import Derived.Test.YtlahfffgmfjpaaaGreatDoorPart28
import Derived.Maps.OwnIn
namespace Go.Proofs.YtlahfffgmfjpaaaGreatDoor
open Go Go.RowKit Go.Shelf Go.Maps

attribute [local go_sem] Oper.semAt_some ext_const ixI0 ixI1 ixI2

theorem wpListIn_appP {F : Fence} {m : Nat} {ops : Array Oper} {rest : List Oper} {o : Oper} {a : Act} {Q : Exit → Act → World → Prop} {W : World} {base : Nat} {v : Value} {xs : List Pl} {b : Bx} {p q r : Bool} (hgd : o.guard = none) (s u : Operand)
    (ho : o.op = .call { callee := .builtin .append, args := #[s, u], argTypes := #[34, 34] }) (hs : a.eval s = v) (hx : a.eval u = .slice (some ⟨W.heap.size, 0, none⟩) 1 1)
    (hown : Lp W base v xs) (hl : xs.length ≤ 100000) (hb : base ≤ W.heap.size)
    (h : ∀ ao n cap w', Lp w' base (.slice ao n cap) (xs ++ [(b, p, q, r)]) → Below base W w' → W.grownBy w' v.ownBlock → wpListIn F m Tryz.prog ops Q rest (a.put o.dst (.slice ao n cap)) w') : wpListIn F m Tryz.prog ops Q (o :: rest) a (W.alloc (.cells (C9 b p q r) 32)) := by
  obtain ⟨i0, hi, hz0, hz1, hz2⟩ := info_parts info_pl
  refine wpListIn_append_own_at (w := W.alloc (.cells (C9 b p q r) 32)) hgd s u 34 ho base 32 i0 _ 9 56 Tryz.underlying34 hi hz0 hz1 hz2 rfl (by decide) v xs.length _ hs (hown.alloc _) ⟨W.heap.size, 0, none⟩ 1 1 (C9 b p q r).toList hx rfl ?_ ?_ ?_ ?_ ?_ ?_
  · intro j w hj
    have hB := (Blk.new W 32 (C9 b p q r)).cell j
    rw [show (⟨W.heap.size, 0, none⟩ : Addr).add j = ⟨W.heap.size, j, none⟩ by by_cases h : j = 0 <;> simp [Addr.add, h], hB]
    simpa using hj
  · exact cellsP_one (b, p, q, r)
  · unfold maxLen; omega
  · omega
  · simp; omega
  · intro v' w1 hown' hgrow _ _
    have hW : Lp w1 base v' (xs ++ [(b, p, q, r)]) := by
      unfold Lp
      rw [flatPl_app, List.length_append]
      exact hown'
    obtain ⟨ao, cap, rfl, _⟩ := hW.form
    exact h ao _ cap w1 hW ((Below.refl base W).grown ((World.grownBy_alloc W _ _).trans hgrow) hb (fun k hk => (World.ownsRow.lt hown k hk).1)) ((World.grownBy_alloc W _ _).trans hgrow)

theorem Lp.own {W : World} {base : Nat} {v : Value} {xs : List Pl} (h : Lp W base v xs) {g : Nat} (hg : v.ownBlock = some g) : base ≤ g ∧ ∃ cur, Blk W g 32 cur := by
  rcases h.2 with ⟨rfl, _⟩ | ⟨g', cap', cur, rfl, hb, hh, _⟩
  · cases hg
  · simp [Value.ownBlock] at hg
    subst hg
    exact ⟨hb, cur, hh⟩
theorem Lp.set {W : World} {base : Nat} {v : Value} {xs : List Pl} (h : Lp W base v xs) {B : Nat} {t : TypeId} {vs : Array Value} (hB : Blk W B t vs) (ht : t ≠ 32) (i : Nat) (u : Value) : Lp (W.setCell ⟨B, i, none⟩ u) base v xs := by
  obtain ⟨h1, h2⟩ := h
  refine ⟨h1, ?_⟩
  rcases h2 with h2 | ⟨g', cap', cur, e, hgb, hh, r⟩
  · exact .inl h2
  · refine .inr ⟨g', cap', cur, e, hgb, (Below.heap_setCell W ⟨B, i, none⟩ u g' (fun e => ?_)).trans hh, r⟩
    have e : g' = B := e
    subst e
    rw [show W.heap[g']? = _ from hB] at hh
    cases hh
    exact ht rfl
theorem Blk.grewP {W W' : World} {base B : Nat} {t : TypeId} {vs : Array Value} {v : Value} {xs : List Pl} (h : Blk W B t vs) (hL : Lp W base v xs) (hg : W.grownBy W' v.ownBlock) (ht : t ≠ 32) : Blk W' B t vs :=
  (hg.block B h.lt (fun e => by
    obtain ⟨_, cur, hc⟩ := hL.own e.symm
    have := (show W.heap[B]? = _ from h).symm.trans (show W.heap[B]? = _ from hc)
    cases this
    exact ht rfl)).trans h
theorem MapBut.lp {g : Nat} {W W' : World} (h : MapBut g W W') {n : Nat} {D : DataW Unit} (hm : Jm W g n D) {base : Nat} {v : Value} {xs : List Pl} (hL : Lp W base v xs) : Lp W' base v xs := by
  obtain ⟨h1, h2⟩ := hL
  refine ⟨h1, ?_⟩
  rcases h2 with h2 | ⟨g', cap', cur, e, hgb, hh, r⟩
  · exact .inl h2
  · exact .inr ⟨g', cap', cur, e, hgb, h.blk hm hh, r⟩
theorem keepsFrom_grew {n : Nat} {W W' : World} {base : Nat} {v : Value} {xs : List Pl} (hL : Lp W base v xs) (hg : W.grownBy W' v.ownBlock) : KeepsFrom n W W' :=
  ⟨hg.size, fun k o _ hk ho => (hg.block k (Array.getElem?_eq_some_iff.1 hk).1 (fun e => by
    obtain ⟨_, cur, hc⟩ := hL.own e.symm
    rw [show W.heap[k]? = _ from hc] at hk
    cases hk
    cases ho)).trans hk⟩

/-- What All keeps while places are handed out. -/
structure AllPv (w : World) (d0 d1 d2 : Int) (mw lw : List Nat) (g n base : Nat) (Bd Bl Bj B8 B9 : Nat) (cj : Array Value) (v : Value) (ys : List Pl) (V : World) : Prop where
  map : ∃ D, Jm V g n D ∧ KnowsM d0 d1 d2 mw lw D
  below : Below w.heap.size w V
  s : Lp V base v ys
  l : Blk V Bl 34 #[v]
  d : Blk V Bd 23 #[I d0, I d1, I d2]
  j : Blk V Bj 60 cj
  x : Blk V B8 34 #[.slice none 0 0]
  y : Blk V B9 35 #[I 0]
section
variable {w V V' : World} {d0 d1 d2 : Int} {mw lw : List Nat} {g n base Bd Bl Bj B8 B9 : Nat} {cj : Array Value} {v v' : Value} {ys ys' : List Pl}
theorem AllPv.later (h : AllPv w d0 d1 d2 mw lw g n base Bd Bl Bj B8 B9 cj v ys V) (hb : Below V.heap.size V V') : AllPv w d0 d1 d2 mw lw g n base Bd Bl Bj B8 B9 cj v ys V' := by
  obtain ⟨⟨D, h1, h2⟩, hB, a1, a2, a3, a4, a5, a6⟩ := h
  exact ⟨⟨D, h1.later hb, h2⟩, then_below hB hb, a1.later hb, a2.later hb, a3.later hb, a4.later hb, a5.later hb, a6.later hb⟩
theorem AllPv.grown (h : AllPv w d0 d1 d2 mw lw g n base Bd Bl Bj B8 B9 cj v ys V) {row : Option Nat} (hg : V.grownBy V' row) (hr : ∀ r, row = some r → w.heap.size ≤ r ∧ r ≠ g ∧ ∃ o : Obj, V.heap[r]? = some o ∧ o.isCells = false) : AllPv w d0 d1 d2 mw lw g n base Bd Bl Bj B8 B9 cj v ys V' := by
  obtain ⟨⟨D, h1, h2⟩, hB, a1, a2, a3, a4, a5, a6⟩ := h
  have hc : ∀ r, row = some r → ∃ o : Obj, V.heap[r]? = some o ∧ o.isCells = false := fun r e => (hr r e).2.2
  exact ⟨⟨D, h1.grown hg (fun e => (hr g e).2.1 rfl), h2⟩, hB.grown hg hB.size (fun r e => (hr r e).1), a1.kept hg hc, a2.kept hg hc, a3.kept hg hc, a4.kept hg hc, a5.kept hg hc, a6.kept hg hc⟩
theorem AllPv.ran {m : Nat} (h : AllPv w d0 d1 d2 mw lw g n base Bd Bl Bj B8 B9 cj v ys V) (hd : ∃ D, Jm V' g m D ∧ KnowsM d0 d1 d2 mw lw D) (hb : MapBut g V V') (hg : w.heap.size ≤ g) : AllPv w d0 d1 d2 mw lw g m base Bd Bl Bj B8 B9 cj v ys V' := by
  obtain ⟨⟨D, h1, h2⟩, hB, a1, a2, a3, a4, a5, a6⟩ := h
  exact ⟨hd, hB.trans (hb.below hg hB.size), hb.lp h1 a1, hb.blk h1 a2, hb.blk h1 a3, hb.blk h1 a4, hb.blk h1 a5, hb.blk h1 a6⟩
theorem AllPv.app (h : AllPv w d0 d1 d2 mw lw g n base Bd Bl Bj B8 B9 cj v ys V) (hg : V.grownBy V' v.ownBlock) (hL : Lp V' base v' ys') (hb : w.heap.size ≤ base) (hl : w.heap.size ≤ Bl) (hd : Bd ≠ Bl ∧ Bj ≠ Bl ∧ B8 ≠ Bl ∧ B9 ≠ Bl) (hgl : g ≠ Bl) : AllPv w d0 d1 d2 mw lw g n base Bd Bl Bj B8 B9 cj v' ys' (V'.setCell ⟨Bl, 0, none⟩ v') := by
  obtain ⟨⟨D, h1, h2⟩, hB, a1, a2, a3, a4, a5, a6⟩ := h
  have k2 := a2.grewP a1 hg (by decide)
  refine ⟨⟨D, (h1.grown hg (fun e => ?_)).setCell (a := ⟨Bl, 0, none⟩) hgl _, h2⟩, (hB.grown hg hB.size (fun r e => Nat.le_trans hb (a1.own e).1)).setCell (p := ⟨Bl, 0, none⟩) hl _, hL.set k2 (by decide) _ _, k2.set 0 _, (a3.grewP a1 hg (by decide)).other _ _ hd.1, (a4.grewP a1 hg (by decide)).other _ _ hd.2.1, (a5.grewP a1 hg (by decide)).other _ _ hd.2.2.1, (a6.grewP a1 hg (by decide)).other _ _ hd.2.2.2⟩
  obtain ⟨_, cur, hc⟩ := a1.own e
  obtain ⟨o, ho, ho2⟩ := Jm.not_cells h1
  rw [show V.heap[g]? = _ from hc] at ho
  cases ho
  cases ho2
end

set_option maxRecDepth 100000 in
set_option maxHeartbeats 4000000 in
theorem sall_no {d0 d1 d2 : Int} {u : Wt} {vm vl : Value} (w : World) (h : ¬ (mayD d0 d1 d2 ∧ mayT u)) : Calls Tryz.prog 6 #[A3 d0 d1 d2, W7 u, vm, vl] w fun e W' => e = .returned (.tuple #[.slice none 0 0, I 8]) ∧ Below w.heap.size w W' := by
  obtain ⟨x, y, z, p, q, r, t⟩ := u
  have HC : Hid (∀ w1, Calls Tryz.prog 15 #[A3 d0 d1 d2, V7 x y z p q r t] w1 fun e W' => e = .returned (I 8) ∧ Below w1.heap.size w1 W') := fun w1 => acheck_no w1 (fun hh => h ⟨hh.1, mayT_D.2 hh.2⟩)
  clear h
  obtain ⟨W, hW, hB0, k0, k1, k2, k3⟩ := four_begin w #[I d0, I d1, I d2] #[I x, I y, I z, .bool p, .bool q, .bool r, .bool t] #[.slice none 0 0] #[I 0] 23 26 34 35
  have HW : Hid ((((w.alloc (.cells #[I d0, I d1, I d2] 23)).alloc (.cells #[I x, I y, I z, .bool p, .bool q, .bool r, .bool t] 26)).alloc (.cells #[.slice none 0 0] 34)).alloc (.cells #[I 0] 35) = W) := hW
  clear hW k0 k1
  refine (callsIn_wide (n := 3)).1 ?_
  refine callsIn_of_wp_marks Tryz.func6 rfl trivial ?_ rfl
  simp only [Tryz.ntmps6, List.size_toArray, List.length_cons, List.length_nil, Nat.reduceAdd, Nat.reduceSub, Array.replicate_succ, Array.replicate_zero, List.push_toArray, List.append_toArray, List.nil_append, List.cons_append]
  dsimp only [W7]
  gi_wp2_with fail
  refine ⟨trivial, (callsIn_wide.2 (HC.out _)).mono ?_⟩
  rw [HW.out]
  rintro e w1 ⟨rfl, hB⟩
  have hT := then_below hB0 hB
  have l2 := k2.later hB
  have l3 := k3.later hB
  have HE : Hid (Below w.heap.size w w1 ∧ Blk w1 (w.heap.size + 1 + 1) 34 #[.slice none 0 0] ∧ Blk w1 (w.heap.size + 1 + 1 + 1) 35 #[I 0]) := ⟨hT, l2, l3⟩
  have f2 := l2.frozen 0
  have f3 := l3.frozen 0
  have c2 := l2.cell 0
  have c3 := l3.cell 0
  have z2 := l2.lt
  have z3 := l3.lt
  simp at c2 c3
  clear hB l2 l3 k2 k3 hT hB0
  gi_wp2
  have m2 := (HE.out.2.1.set 0 (.slice none 0 0)).other (B' := w.heap.size + 1 + 1 + 1) 0 (I 8) (by omega)
  have m3 := (HE.out.2.2.other (B' := w.heap.size + 1 + 1) 0 (.slice none 0 0) (by omega)).set 0 (I 8)
  have e2 := m2.cell 0
  have e3 := m3.cell 0
  simp at e2 e3
  exact ⟨.tuple #[.slice none 0 0, I 8], by simp [results, Tryz.f6, go_sem, e2, e3], rfl, (HE.out.1.setCell (p := ⟨w.heap.size + 1 + 1, 0, none⟩) (by show _ ≤ w.heap.size + 1 + 1; omega) _).setCell (p := ⟨w.heap.size + 1 + 1 + 1, 0, none⟩) (by show _ ≤ w.heap.size + 1 + 1 + 1; omega) _⟩

set_option maxRecDepth 100000 in
set_option maxHeartbeats 4000000 in
theorem sall_bad {d0 d1 d2 : Int} {u : Wt} {vm vl : Value} {mw lw : List Nat} (w : World) (hd : mayD d0 d1 d2) (hu : mayT u) (hM : Wds w vm mw) (hL : Wds w vl lw) (hw : mayW (d0 * d1 * d2).toNat mw lw = false) : Calls Tryz.prog 6 #[A3 d0 d1 d2, W7 u, vm, vl] w fun e W' => e = .returned (.tuple #[.slice none 0 0, I 8]) ∧ Below w.heap.size w W' := by
  obtain ⟨x, y, z, p, q, r, t⟩ := u
  have HC : Hid (∀ w1, Calls Tryz.prog 15 #[A3 d0 d1 d2, V7 x y z p q r t] w1 fun e W' => e = .returned (I 0) ∧ Below w1.heap.size w1 W') := fun w1 => acheck_yes w1 hd (mayT_D.1 hu)
  have HS : Hid (∀ w1, Below w.heap.size w w1 → Calls Tryz.prog 16 #[A3 d0 d1 d2, vm, vl] w1 fun e W' => e = .returned (I 8) ∧ Below w1.heap.size w1 W') := fun w1 hb => by
    have := asets_calls w1 hd (hM.later hb) (hL.later hb)
    rw [hw] at this
    exact this
  clear hd hu hM hL hw
  obtain ⟨W, hW, hB0, k0, k1, k2, k3⟩ := four_begin w #[I d0, I d1, I d2] #[I x, I y, I z, .bool p, .bool q, .bool r, .bool t] #[.slice none 0 0] #[I 0] 23 26 34 35
  have HW : Hid ((((w.alloc (.cells #[I d0, I d1, I d2] 23)).alloc (.cells #[I x, I y, I z, .bool p, .bool q, .bool r, .bool t] 26)).alloc (.cells #[.slice none 0 0] 34)).alloc (.cells #[I 0] 35) = W) := hW
  clear hW k1
  refine (callsIn_wide (n := 3)).1 ?_
  refine callsIn_of_wp_marks Tryz.func6 rfl trivial ?_ rfl
  simp only [Tryz.ntmps6, List.size_toArray, List.length_cons, List.length_nil, Nat.reduceAdd, Nat.reduceSub, Array.replicate_succ, Array.replicate_zero, List.push_toArray, List.append_toArray, List.nil_append, List.cons_append]
  dsimp only [W7]
  gi_wp2_with fail
  refine ⟨trivial, (callsIn_wide.2 (HC.out _)).mono ?_⟩
  rw [HW.out]
  rintro e w0' ⟨rfl, hB⟩
  have hT := then_below hB0 hB
  obtain ⟨a0, a1, a2, az⟩ := (k0.later hB).three (Below.refl _ _)
  gi_wp2_with fail
  refine ⟨trivial, (callsIn_wide.2 (HS.out _ hT)).mono ?_⟩
  rintro e w1 ⟨rfl, hB1⟩
  replace hT := then_below hT hB1
  replace k2 := k2.later hB
  replace k3 := k3.later hB
  clear hB a0 a1 a2 az
  have hB := hB1
  have l2 := k2.later hB
  have l3 := k3.later hB
  have HE : Hid (Below w.heap.size w w1 ∧ Blk w1 (w.heap.size + 1 + 1) 34 #[.slice none 0 0] ∧ Blk w1 (w.heap.size + 1 + 1 + 1) 35 #[I 0]) := ⟨hT, l2, l3⟩
  have f2 := l2.frozen 0
  have f3 := l3.frozen 0
  have c2 := l2.cell 0
  have c3 := l3.cell 0
  have z2 := l2.lt
  have z3 := l3.lt
  simp at c2 c3
  clear hB l2 l3 k2 k3 hT hB0
  gi_wp2
  have m2 := (HE.out.2.1.set 0 (.slice none 0 0)).other (B' := w.heap.size + 1 + 1 + 1) 0 (I 8) (by omega)
  have m3 := (HE.out.2.2.other (B' := w.heap.size + 1 + 1) 0 (.slice none 0 0) (by omega)).set 0 (I 8)
  have e2 := m2.cell 0
  have e3 := m3.cell 0
  simp at e2 e3
  exact ⟨.tuple #[.slice none 0 0, I 8], by simp [results, Tryz.f6, go_sem, e2, e3], rfl, (HE.out.1.setCell (p := ⟨w.heap.size + 1 + 1, 0, none⟩) (by show _ ≤ w.heap.size + 1 + 1; omega) _).setCell (p := ⟨w.heap.size + 1 + 1 + 1, 0, none⟩) (by show _ ≤ w.heap.size + 1 + 1 + 1; omega) _⟩

theorem Lp.based {W : World} {base : Nat} {v : Value} {xs : List Pl} (h : Lp W base v xs) : ∃ b, Lp W b v xs ∧ b ≤ W.heap.size ∧ ∀ k, k < base → k < W.heap.size → k < b := by
  obtain ⟨h1, h2⟩ := h
  rcases h2 with h2 | ⟨g', cap', cur, e, hgb, hh, r⟩
  · exact ⟨W.heap.size, ⟨h1, .inl h2⟩, Nat.le_refl _, fun k _ h => h⟩
  · exact ⟨g', ⟨h1, .inr ⟨g', cap', cur, e, Nat.le_refl _, hh, r⟩⟩, Nat.le_of_lt (Array.getElem?_eq_some_iff.1 hh).1, fun k h _ => Nat.lt_of_lt_of_le h hgb⟩
/-- How All ends. -/
structure AllEnd (w : World) (B8 B9 : Nat) (v : Value) (res : List Pl) (V : World) : Prop where
  below : Below w.heap.size w V
  s : Lp V w.heap.size v res
  x : Blk V B8 34 #[v]
  y : Blk V B9 35 #[I 0]
theorem AllEnd.grown {w V V' : World} {B8 B9 : Nat} {v : Value} {res : List Pl} (h : AllEnd w B8 B9 v res V) {row : Option Nat} (hg : V.grownBy V' row) (hr : ∀ r, row = some r → w.heap.size ≤ r ∧ ∃ o : Obj, V.heap[r]? = some o ∧ o.isCells = false) : AllEnd w B8 B9 v res V' := by
  have hc : ∀ r, row = some r → ∃ o : Obj, V.heap[r]? = some o ∧ o.isCells = false := fun r e => (hr r e).2
  exact ⟨h.below.grown hg h.below.size (fun r e => (hr r e).1), h.s.kept hg hc, h.x.kept hg hc, h.y.kept hg hc⟩

set_option maxRecDepth 100000 in
set_option maxHeartbeats 16000000 in
theorem sall_yes {d0 d1 d2 : Int} {u : Wt} {vm vl : Value} {mw lw : List Nat} (w : World) (hO : OrdOk w) (hd : mayD d0 d1 d2) (hu : mayT u) (hM : Wds w vm mw) (hL : Wds w vl lw) (hw : mayW (d0 * d1 * d2).toNat mw lw = true) :
    Calls Tryz.prog 6 #[A3 d0 d1 d2, W7 u, vm, vl] w fun e W' => ∃ v, e = .returned (.tuple #[v, I 0]) ∧ Lp W' w.heap.size v (clearT d0 d1 d2 (turnsT u) mw lw) ∧ Below w.heap.size w W' := by
  have HSq : Hid (∀ (Bd Bw : Nat) (w1 : World), OrdOk w1 → Blk w1 Bd 23 #[I d0, I d1, I d2] → Blk w1 Bw 26 (C7 u) → SeqO Tryz.prog 42 #[.pointer (some ⟨Bw, 0, none⟩), .pointer (some ⟨Bd, 0, none⟩)] encP okP (placesL d0 d1 d2 u) w1) := fun Bd Bw w1 h1 h2 h3 => places_seq hd u hu w1 h1 h2 h3
  have HBd : Hid ((placesL d0 d1 d2 u).length ≤ 24576) := places_bd hd hu
  have HPc : Hid (∀ w1, Calls Tryz.prog 18 #[A3 d0 d1 d2, W7 u] w1 fun e W' => e = .returned (.func (.func 42) #[] #[.pointer (some ⟨w1.heap.size + 1, 0, none⟩), .pointer (some ⟨w1.heap.size, 0, none⟩)]) ∧ W' = (w1.alloc (.cells #[I d0, I d1, I d2] 23)).alloc (.cells (C7 u) 26)) := fun w1 => places_calls d0 d1 d2 u w1
  have HMay : Hid (∀ x ∈ placesL d0 d1 d2 u, mayL d0 d1 d2 x = true) := fun x hx => ((places_mem hd).1 hx).1
  have HRise : Hid (∀ ys : List Pl, ys.Pairwise (fun x y => atV d0 d1 d2 x ≤ atV d0 d1 d2 y) → (∀ k, ofKey (atV d0 d1 d2) k ys = ofKey (atV d0 d1 d2) k ((placesL d0 d1 d2 u).filter (wellL d0 d1 d2 mw lw))) → ys = clearT d0 d1 d2 (turnsT u) mw lw) := fun ys h1 h2 => rise_clear hd hu h1 h2
  have HHold : Hid (∀ (x : Pl) (g k : Nat) (V : World) (D : DataW Unit), mayL d0 d1 d2 x = true → k < 900000000 → Below w.heap.size w V → Jm V g k D → KnowsM d0 d1 d2 mw lw D → Calls Tryz.prog 19 #[J6 d0 d1 d2 vm vl g, P9 x.1 x.2.1 x.2.2.1 x.2.2.2] V fun e W' => e = .returned (.tuple #[.bool (wellL d0 d1 d2 mw lw x), I 0]) ∧ (∃ D', Jm W' g (k + 1000) D' ∧ KnowsM d0 d1 d2 mw lw D') ∧ MapBut g V W') := fun x g k V D hx hk hb h1 h2 => jholds_calls V hd hw (hM.later hb) (hL.later hb) h1 h2 hk hx
  have HNew : Hid (∀ w1, Below w.heap.size w w1 → Calls Tryz.prog 17 #[A3 d0 d1 d2, vm, vl] w1 fun e W' => ∃ g, e = .returned (J6 d0 d1 d2 vm vl g) ∧ w1.heap.size ≤ g ∧ Jm W' g 0 (.map []) ∧ Below w1.heap.size w1 W') := fun w1 hb => newJudge_calls w1 (hM.later hb) (hL.later hb)
  have HS : Hid (∀ w1, Below w.heap.size w w1 → Calls Tryz.prog 16 #[A3 d0 d1 d2, vm, vl] w1 fun e W' => e = .returned (I 0) ∧ Below w1.heap.size w1 W') := fun w1 hb => by
    have := asets_calls w1 hd (hM.later hb) (hL.later hb)
    rw [hw] at this
    exact this
  have HSort : Hid (∀ (base : Nat) (v : Value) (xs : List Pl) (w1 : World), Lp w1 base v xs → xs.length ≤ 100000 → base ≤ w1.heap.size → Calls Tryz.prog 20 #[A3 d0 d1 d2, v] w1 fun e W' => e = .returned (.tuple #[]) ∧ ∃ ys : List Pl, Lp W' base v ys ∧ ys.Pairwise (fun x y => atV d0 d1 d2 x ≤ atV d0 d1 d2 y) ∧ (∀ k, ofKey (atV d0 d1 d2) k ys = ofKey (atV d0 d1 d2) k xs) ∧ Below base w1 W') := fun base v xs w1 h1 h2 h3 => rise_calls hd w1 h1 h2 h3
  obtain ⟨_, _, _, rfl⟩ := hM.form
  obtain ⟨_, _, _, rfl⟩ := hL.form
  rename_i am nm cm al nl cl
  obtain ⟨x, y, z, p, q, r, t⟩ := u
  have HC : Hid (∀ w1, Calls Tryz.prog 15 #[A3 d0 d1 d2, V7 x y z p q r t] w1 fun e W' => e = .returned (I 0) ∧ Below w1.heap.size w1 W') := fun w1 => acheck_yes w1 hd (mayT_D.1 hu)
  have HO : Hid (OrdOk w) := hO
  clear hd hu hM hL hw hO
  generalize clearT d0 d1 d2 (turnsT (x, y, z, p, q, r, t)) mw lw = res at *
  generalize placesL d0 d1 d2 (x, y, z, p, q, r, t) = L at *
  dsimp only [C7, W7] at HSq HPc ⊢
  obtain ⟨W, hW, hB0, k0, k1, k2, k3⟩ := four_begin w #[I d0, I d1, I d2] #[I x, I y, I z, .bool p, .bool q, .bool r, .bool t] #[.slice none 0 0] #[I 0] 23 26 34 35
  have HW : Hid ((((w.alloc (.cells #[I d0, I d1, I d2] 23)).alloc (.cells #[I x, I y, I z, .bool p, .bool q, .bool r, .bool t] 26)).alloc (.cells #[.slice none 0 0] 34)).alloc (.cells #[I 0] 35) = W) := hW
  clear hW
  refine (callsIn_wide (n := 3)).1 ?_
  refine callsIn_of_wp_marks Tryz.func6 rfl trivial ?_ rfl
  simp only [Tryz.ntmps6, List.size_toArray, List.length_cons, List.length_nil, Nat.reduceAdd, Nat.reduceSub, Array.replicate_succ, Array.replicate_zero, List.push_toArray, List.append_toArray, List.nil_append, List.cons_append]
  gi_wp2_with fail
  refine ⟨trivial, (callsIn_wide.2 (HC.out _)).mono ?_⟩
  rw [HW.out]
  rintro e w1 ⟨rfl, hB⟩
  have hT1 := then_below hB0 hB
  replace k0 := k0.later hB
  replace k1 := k1.later hB
  replace k2 := k2.later hB
  replace k3 := k3.later hB
  clear HW hB0 hB W
  obtain ⟨a0, a1, a2, az⟩ := k0.three (Below.refl _ _)
  gi_wp2_with fail
  refine ⟨trivial, (callsIn_wide.2 (HS.out _ hT1)).mono ?_⟩
  rintro e w2 ⟨rfl, hB⟩
  have hT2 := then_below hT1 hB
  replace k0 := k0.later hB
  replace k1 := k1.later hB
  replace k2 := k2.later hB
  replace k3 := k3.later hB
  have z9 := k3.lt
  clear hB a0 a1 a2 az hT1 w1 HS HC
  obtain ⟨a0, a1, a2, az⟩ := k0.three (Below.refl _ _)
  have hBl : Below w2.heap.size w2 (w2.alloc (.cells #[.slice none 0 0] 34)) := (Below.refl _ w2).alloc (Nat.le_refl _) _
  have kl := Blk.new w2 34 #[.slice none 0 0]
  gi_wp2_with fail
  refine ⟨trivial, (callsIn_wide.2 (HNew.out _ (then_below hT2 hBl))).mono ?_⟩
  rintro e w3 ⟨g, rfl, hg, hJm, hB⟩
  have hB3 := then_below hBl hB
  have hT3 := then_below hT2 hB3
  replace k0 := k0.later hB3
  replace k1 := k1.later hB3
  replace k2 := k2.later hB3
  replace k3 := k3.later hB3
  replace kl := kl.later hB
  have hgw : w2.heap.size < g := by
    have : (w2.alloc (.cells #[.slice none 0 0] 34)).heap.size = w2.heap.size + 1 := by simp
    omega
  have hw2 : w.heap.size + 1 + 1 + 1 < w2.heap.size ∧ w.heap.size ≤ w2.heap.size := by
    exact ⟨z9, hT2.size⟩
  clear hB hB3 hBl hT2 a0 a1 a2 az HNew hg z9
  obtain ⟨a0, a1, a2, az⟩ := k0.three (Below.refl _ _)
  obtain ⟨s0, s1, s2, s3, s4, s5, s6⟩ := k1.seven
  have sz := k1.lt
  gi_wp2_with fail
  refine ⟨trivial, (callsIn_wide.2 (HPc.out _)).mono ?_⟩
  rintro e w4 ⟨rfl, rfl⟩
  clear a0 a1 a2 az s0 s1 s2 s3 s4 s5 s6 sz
  obtain ⟨U, hU⟩ : ∃ U, U = (((w3.alloc (.cells #[I d0, I d1, I d2, .slice am nm cm, .slice al nl cl, .map (some g)] 60)).alloc (.cells #[I d0, I d1, I d2] 23)).alloc (.cells #[I x, I y, I z, .bool p, .bool q, .bool r, .bool t] 26)) := ⟨_, rfl⟩
  have hbU : Below w3.heap.size w3 U := by
    rw [hU]
    exact (((Below.refl _ w3).alloc (Nat.le_refl _) _).alloc (by simp) _).alloc (by simp; omega) _
  have hTU : Below w.heap.size w U := then_below hT3 hbU
  have hsq := HSq.out (w3.heap.size + 1) (w3.heap.size + 1 + 1) U (HO.out.later hTU) (by
      rw [hU]
      have := (Blk.new (w3.alloc (.cells #[I d0, I d1, I d2, .slice am nm cm, .slice al nl cl, .map (some g)] 60)) 23 #[I d0, I d1, I d2]).alloc (.cells #[I x, I y, I z, .bool p, .bool q, .bool r, .bool t] 26)
      simpa using this) (by
      rw [hU]
      have := Blk.new ((w3.alloc (.cells #[I d0, I d1, I d2, .slice am nm cm, .slice al nl cl, .map (some g)] 60)).alloc (.cells #[I d0, I d1, I d2] 23)) 26 #[I x, I y, I z, .bool p, .bool q, .bool r, .bool t]
      simpa using this)
  have kj : Blk U w3.heap.size 60 #[I d0, I d1, I d2, .slice am nm cm, .slice al nl cl, .map (some g)] := by
    rw [hU]
    exact ((Blk.new w3 60 #[I d0, I d1, I d2, .slice am nm cm, .slice al nl cl, .map (some g)]).alloc _).alloc _
  simp only [World.size_alloc]
  rw [← hU]
  have hjlt := World.ownsMap.lt hJm
  have hjU := kj.lt
  have hpv : AllPv w d0 d1 d2 mw lw g 0 (U.heap.size + 2) w.heap.size w2.heap.size w3.heap.size (w.heap.size + 1 + 1) (w.heap.size + 1 + 1 + 1) #[I d0, I d1, I d2, .slice am nm cm, .slice al nl cl, .map (some g)] (.slice none 0 0) [] U :=
    ⟨⟨_, hJm.later hbU, knows_none _ _ _ _ _⟩, hTU, Lp.nil _ _, kl.later hbU, k0.later hbU, kj, k2.later hbU, k3.later hbU⟩
  have HU : Hid (w.heap.size ≤ w2.heap.size ∧ w2.heap.size < g ∧ g < w3.heap.size ∧ w3.heap.size < U.heap.size ∧ w.heap.size + 1 + 1 + 1 < w2.heap.size) := ⟨hw2.2, hgw, hjlt, hjU, hw2.1⟩
  clear hU hbU hTU kj hjlt hjU hT3 k0 k1 k2 k3 kl hgw hw2 hJm HPc HSq HO
  have HN : Hid (w.heap.size ≤ w.heap.size + 1 + 1 ∧ w.heap.size ≤ w.heap.size + 1 + 1 + 1 ∧ w.heap.size + 1 + 1 ≠ w.heap.size + 1 + 1 + 1) := ⟨by omega, by omega, by omega⟩
  have HD : Hid (w.heap.size ≠ w2.heap.size ∧ w3.heap.size ≠ w2.heap.size ∧ w.heap.size + 1 + 1 ≠ w2.heap.size ∧ w.heap.size + 1 + 1 + 1 ≠ w2.heap.size) := by
    have := HU.out
    exact ⟨by omega, by omega, by omega, by omega⟩
  generalize hB9 : w.heap.size + 1 + 1 + 1 = B9 at *
  generalize hB8 : w.heap.size + 1 + 1 = B8 at *
  generalize hB1 : w.heap.size + 1 = B1 at *
  generalize hB2 : w3.heap.size + 1 + 1 = Bx2 at *
  generalize hB3 : w3.heap.size + 1 = Bx1 at *
  generalize w3.heap.size = Bj at *
  generalize w2.heap.size = Bl at *
  gi_wp2_with fail
  refine wpIn_rangeOx rfl (enters_of Tryz.func42 (by kernel_rfl) rfl) hsq (Below.refl _ _) (fun _ => rfl)
    (fun pre V => ∃ v, AllPv w d0 d1 d2 mw lw g (pre.length * 1000) (U.heap.size + 2) w.heap.size Bl Bj B8 B9 #[I d0, I d1, I d2, .slice am nm cm, .slice al nl cl, .map (some g)] v (pre.filter (wellL d0 d1 d2 mw lw)) V) (fun _ _ _ => False)
    (fun pre A A' row hs hgr hr => by
      obtain ⟨v, h⟩ := hs
      exact ⟨v, h.grown hgr fun r e => ⟨by have := (hr r e).1; have := HU.out; omega, by have := (hr r e).1; have := HU.out; omega, (hr r e).2⟩⟩)
    (fun _ _ _ _ _ hs _ _ => hs)
    ⟨_, hpv⟩
    (fun xx a' V => ∃ Bf, a' = { tmps := #[A3 d0 d1 d2, V7 x y z p q r t, .slice am nm cm, .slice al nl cl, .pointer (some ⟨w.heap.size, 0, none⟩), .pointer (some ⟨B1, 0, none⟩), undef, undef, .pointer (some ⟨B8, 0, none⟩), .pointer (some ⟨B9, 0, none⟩), I 0, I 0, .pointer (some ⟨Bl, 0, none⟩), .pointer (some ⟨Bj, 0, none⟩), .pointer (some ⟨Bf, 0, none⟩), undef, undef, .agg #[.int .i64 d0, .int .i64 d1, .int .i64 d2], .agg #[.int .i64 x, .int .i64 y, .int .i64 z, .bool p, .bool q, .bool r, .bool t], I 0, I 0, .bool false, undef, .agg #[I d0, I d1, I d2], .slice am nm cm, .slice al nl cl, I 0, I 0, .bool false, undef, .agg #[I d0, I d1, I d2], .slice am nm cm, .slice al nl cl, J6 d0 d1 d2 (.slice am nm cm) (.slice al nl cl) g, .agg #[I d0, I d1, I d2], .agg #[I x, I y, I z, .bool p, .bool q, .bool r, .bool t], .func (.func 42) #[] #[.pointer (some ⟨Bx2, 0, none⟩), .pointer (some ⟨Bx1, 0, none⟩)], PV xx, undef, undef, undef, undef, undef, undef, undef, undef, undef, undef, undef, undef, undef, undef, undef, undef, undef, undef], defers := [] } ∧ Blk V Bf 32 (C9 xx.1 xx.2.1 xx.2.2.1 xx.2.2.2))
    (fun xx a' _ A0 A1 row hs hgr hr => by
      obtain ⟨Bf, e, hb⟩ := hs
      exact ⟨Bf, e, hb.kept hgr (fun r e => (hr r e).2)⟩) ?assign ?body ?done ?stop
  case assign =>
    rintro l2 pre ⟨b, b0, b1, b2⟩ V K2 hI hK2
    have hBa : Below V.heap.size V (V.alloc (.cells (C9 b b0 b1 b2) 32)) := (Below.refl _ V).alloc (Nat.le_refl _) _
    obtain ⟨v, hI⟩ := hI
    gi_wp2
    exact hK2 _ _ ((keeps_below hBa).from _) (KeepT.below _ hBa) ⟨v, hI.later hBa⟩ ⟨_, rfl, Blk.new _ _ _⟩
  case body =>
    rintro l2 pre ⟨b, b0, b1, b2⟩ a' V hpre hl2 hlp ⟨v, pv⟩ ⟨Bf, rfl, kf⟩
    dsimp only at kf ⊢
    have hbase : U.heap.size + 2 ≤ V.heap.size := by
      obtain ⟨r0, hr0⟩ := hlp
      have := (Array.getElem?_eq_some_iff.1 hr0).1
      omega
    have hx : (b, b0, b1, b2) ∈ L := hpre.subset (by simp)
    have hln : pre.length < 24576 := by
      have h1 := hpre.length_le
      have h2 := HBd.out
      rw [List.length_append, List.length_singleton] at h1
      omega
    have hfl : (pre.filter (wellL d0 d1 d2 mw lw)).length ≤ 100000 := Nat.le_trans (List.length_filter_le _ _) (by omega)
    obtain ⟨DV, hm1, hk1⟩ := pv.map
    have HH := HHold.out (b, b0, b1, b2) g (pre.length * 1000) V DV (HMay.out _ hx) (by omega) pv.below hm1 hk1
    have HmV : Hid (Jm V g (pre.length * 1000) DV) := hm1
    dsimp only at HH
    have HP : Hid (AllPv w d0 d1 d2 mw lw g (pre.length * 1000) (U.heap.size + 2) w.heap.size Bl Bj B8 B9 #[I d0, I d1, I d2, .slice am nm cm, .slice al nl cl, .map (some g)] v (pre.filter (wellL d0 d1 d2 mw lw)) V) := pv
    have HA : Hid (pre.length * 1000 + 1000 = (pre ++ [(b, b0, b1, b2)]).length * 1000) := by show _ = _; simp; omega
    have HF1 : Hid (wellL d0 d1 d2 mw lw (b, b0, b1, b2) = true → (pre ++ [(b, b0, b1, b2)]).filter (wellL d0 d1 d2 mw lw) = pre.filter (wellL d0 d1 d2 mw lw) ++ [(b, b0, b1, b2)]) := fun h => by simp [List.filter_append, h]
    have HF0 : Hid (wellL d0 d1 d2 mw lw (b, b0, b1, b2) = false → (pre ++ [(b, b0, b1, b2)]).filter (wellL d0 d1 d2 mw lw) = pre.filter (wellL d0 d1 d2 mw lw)) := fun h => by simp [List.filter_append, h]
    have j0 := pv.j.cell 0; have j1 := pv.j.cell 1; have j2 := pv.j.cell 2; have j3 := pv.j.cell 3; have j4 := pv.j.cell 4; have j5 := pv.j.cell 5
    simp only [List.getElem?_toArray, List.getElem?_cons_zero, List.getElem?_cons_succ] at j0 j1 j2 j3 j4 j5
    have l0 := pv.j.lt
    have KF : Hid (Blk V Bf 32 (C9 b b0 b1 b2)) := kf
    obtain ⟨⟨v0, v1, v2⟩, ⟨v3, v4, v5⟩, ⟨v6, v7, v8⟩, l1⟩ := kf.nine (Below.refl _ V)
    clear pv hm1 hk1 hpre hx kf hlp
    generalize pre.filter (wellL d0 d1 d2 mw lw) = FP at *
    generalize wellL d0 d1 d2 mw lw (b, b0, b1, b2) = ans at *
    generalize pre.length * 1000 = n1 at *
    have HH : Hid (Calls Tryz.prog 19 #[J6 d0 d1 d2 (.slice am nm cm) (.slice al nl cl) g, P9 b b0 b1 b2] V fun e W' => e = .returned (.tuple #[.bool ans, I 0]) ∧ (∃ D', Jm W' g (n1 + 1000) D' ∧ KnowsM d0 d1 d2 mw lw D') ∧ MapBut g V W') := HH
    gi_wp2_with fail
    refine ⟨trivial, rfl, (CallsIn.inRound l2 (callsIn_wide.2 HH.out)).mono ?_⟩
    rintro e V2 ⟨rfl, hD2, hM2⟩
    have pv2 := HP.out.ran hD2 hM2 (by have := HU.out; omega)
    rw [HA.out] at pv2
    have kf2 := hM2.blk HmV.out KF.out
    have HM2 : Hid (MapBut g V V2) := hM2
    have hb2 : U.heap.size + 2 ≤ V2.heap.size := Nat.le_trans hbase hM2.size
    clear j0 j1 j2 j3 j4 j5 l0 v0 v1 v2 v3 v4 v5 v6 v7 v8 l1 hD2 hM2 HP
    cases ans
    · have HP2 : Hid (AllPv w d0 d1 d2 mw lw g ((pre ++ [(b, b0, b1, b2)]).length * 1000) (U.heap.size + 2) w.heap.size Bl Bj B8 B9 #[I d0, I d1, I d2, .slice am nm cm, .slice al nl cl, .map (some g)] v ((pre ++ [(b, b0, b1, b2)]).filter (wellL d0 d1 d2 mw lw)) V2) := by rw [HF0.out (by trivial)]; exact pv2
      clear pv2 kf2
      gi_wp2
      exact ⟨HM2.out.keepsFrom (by have := HU.out; omega), (HM2.out.keepT HmV.out okP), v, HP2.out⟩
    · have HP2 : Hid (AllPv w d0 d1 d2 mw lw g ((pre ++ [(b, b0, b1, b2)]).length * 1000) (U.heap.size + 2) w.heap.size Bl Bj B8 B9 #[I d0, I d1, I d2, .slice am nm cm, .slice al nl cl, .map (some g)] v FP V2) := pv2
      have hLp := pv2.s
      have hbl := pv2.l
      have cl0 := hbl.cell 0
      have zl0 := hbl.lt
      simp at cl0
      obtain ⟨⟨v0, v1, v2⟩, ⟨v3, v4, v5⟩, ⟨v6, v7, v8⟩, l1⟩ := kf2.nine (Below.refl _ V2)
      clear pv2 kf2
      gi_wp2_with (gi_at_builtin; refine wpListIn_appP rfl _ _ rfl rfl rfl hLp hfl hb2 ?_; intro ao5 n5 cap5 w5 hL5 hB5 hg5; have hbl5 := hbl.grewP hLp hg5 (by decide); have c5 := hbl5.cell 0; have f5 := hbl5.frozen 0; have z5 := hbl5.lt; simp at c5)
      have hk5 : KeepsFrom U.heap.size V2 w5 := keepsFrom_grew hLp hg5
      have ht5 : KeepT okP V2 w5 := KeepT.grown hg5 (fun r c t f e hc => by
        obtain ⟨_, cur, hcur⟩ := hLp.own e
        have := (show V2.heap[r]? = _ from hcur).symm.trans hc
        cases this
        rfl)
      have hend := HP2.out.app hg5 hL5 (by have := HU.out; omega) (by have := HU.out; omega) HD.out (by have := HU.out; omega)
      refine ⟨((HM2.out.keepsFrom (by have := HU.out; omega)).trans hk5).trans (keepsFrom_setCell _ (a := ⟨Bl, 0, none⟩) (by have := HU.out; show Bl < _; omega) _), ((show KeepT okP V V2 from HM2.out.keepT HmV.out okP).trans ht5).trans (keepT_setCell hbl5 (by decide) _), .slice ao5 n5 cap5, ?_⟩
      rw [HF1.out (by trivial)]
      exact hend
  case done =>
    rintro Dm V hD ⟨v, pv⟩ hDV
    obtain ⟨ao8, cap8, rfl, _⟩ := pv.s.form
    obtain ⟨a0, a1, a2, az⟩ := pv.d.three (Below.refl _ V)
    have hDlt := (Array.getElem?_eq_some_iff.1 hDV).1
    obtain ⟨bb, hLb, hbV, hbk⟩ := pv.s.based
    have c8 := pv.l.cell 0
    have z8 := pv.l.lt
    simp at c8
    have hln : (L.filter (wellL d0 d1 d2 mw lw)).length ≤ 100000 := Nat.le_trans (List.length_filter_le _ _) (by have := HBd.out; omega)
    have HSo := HSort.out bb _ (L.filter (wellL d0 d1 d2 mw lw)) V hLb hln hbV
    have q8 := hbk B8 (by have := HU.out; omega) pv.x.lt
    have q9 := hbk B9 (by have := HU.out; omega) pv.y.lt
    have ql := hbk Bl (by have := HU.out; omega) pv.l.lt
    have qD := hbk Dm (by omega) hDlt
    have HPv : Hid (Blk V B8 34 #[.slice none 0 0] ∧ Blk V B9 35 #[I 0] ∧ Blk V Bl 34 #[.slice ao8 (L.filter (wellL d0 d1 d2 mw lw)).length cap8] ∧ Below w.heap.size w V ∧ V.heap[Dm]? = some (.deferred (some []))) := ⟨pv.x, pv.y, pv.l, pv.below, hDV⟩
    have HQ : Hid (B8 < bb ∧ B9 < bb ∧ Bl < bb ∧ Dm < bb ∧ w.heap.size ≤ bb ∧ w.heap.size ≤ Dm) := ⟨q8, q9, ql, qD, by have := HN.out; omega, by have := HU.out; omega⟩
    have HSo : Hid (Calls Tryz.prog 20 #[A3 d0 d1 d2, .slice ao8 (L.filter (wellL d0 d1 d2 mw lw)).length cap8] V fun e W' => e = .returned (.tuple #[]) ∧ ∃ ys : List Pl, Lp W' bb (.slice ao8 (L.filter (wellL d0 d1 d2 mw lw)).length cap8) ys ∧ ys.Pairwise (fun x y => atV d0 d1 d2 x ≤ atV d0 d1 d2 y) ∧ (∀ k, ofKey (atV d0 d1 d2) k ys = ofKey (atV d0 d1 d2) k (L.filter (wellL d0 d1 d2 mw lw))) ∧ Below bb V W') := HSo
    clear pv hDV hD hDlt hLb hbV hbk hln q8 q9 ql qD
    gi_wp2_with fail
    refine ⟨trivial, (callsIn_wide.2 HSo.out).mono ?_⟩
    rintro e V2 ⟨rfl, ys, hLy, hy1, hy2, hB2⟩
    obtain rfl := HRise.out ys hy1 hy2
    have m8 := HPv.out.1.below hB2 HQ.out.1
    have m9 := HPv.out.2.1.below hB2 HQ.out.2.1
    have ml := HPv.out.2.2.1.below hB2 HQ.out.2.2.1
    have hTV := HPv.out.2.2.2.1.trans (hB2.mono HQ.out.2.2.2.2.1)
    have hD2 : V2.heap[Dm]? = some (.deferred (some [])) := (hB2.block Dm HQ.out.2.2.2.1).trans HPv.out.2.2.2.2
    generalize (L.filter (wellL d0 d1 d2 mw lw)).length = n8 at *
    have hE : AllEnd w B8 B9 (.slice ao8 n8 cap8) ys ((V2.setCell ⟨B8, 0, none⟩ (.slice ao8 n8 cap8)).setCell ⟨B9, 0, none⟩ (I 0)) :=
      ⟨(hTV.setCell (p := ⟨B8, 0, none⟩) HN.out.1 _).setCell (p := ⟨B9, 0, none⟩) HN.out.2.1 _, ((hLy.weak HQ.out.2.2.2.2.1).set m8 (by decide) _ _).set (m9.other _ _ (fun e => HN.out.2.2 e.symm)) (by decide) _ _, (m8.set 0 _).other _ _ HN.out.2.2, (m9.other _ _ (fun e => HN.out.2.2 e.symm)).set 0 _⟩
    have HE : Hid (AllEnd w B8 B9 (.slice ao8 n8 cap8) ys ((V2.setCell ⟨B8, 0, none⟩ (.slice ao8 n8 cap8)).setCell ⟨B9, 0, none⟩ (I 0))) := hE
    have HDm : Hid (w.heap.size ≤ Dm ∧ ((V2.setCell ⟨B8, 0, none⟩ (.slice ao8 n8 cap8)).setCell ⟨B9, 0, none⟩ (I 0)).heap[Dm]? = some (.deferred (some []))) :=
      ⟨HQ.out.2.2.2.2.2, (RowKit.Below.heap_setCell _ _ _ _ (fun e => by
        have e : Dm = B9 := e
        have h1 : V2.heap[B9]? = _ := m9
        rw [← e, hD2] at h1
        cases h1)).trans ((RowKit.Below.heap_setCell _ _ _ _ (fun e => by
        have e : Dm = B8 := e
        have h1 : V2.heap[B8]? = _ := m8
        rw [← e, hD2] at h1
        cases h1)).trans hD2)⟩
    have cl := ml.cell 0
    have f8 := m8.frozen 0
    have f9 := m9.frozen 0
    have c8' := m8.cell 0
    have c9' := m9.cell 0
    have z8' := m8.lt
    have z9' := m9.lt
    simp at cl c8' c9'
    clear hE hD2 hTV m8 m9 ml hLy hy1 hy2 hB2 c8 z8 a0 a1 a2 az HSo HPv
    gi_wp2
    refine leaves_own (n := w.heap.size) (fun V' => AllEnd w B8 B9 (.slice ao8 n8 cap8) ys V') (fun _ A A' row hs hgr hr => hs.grown hgr hr) [Dm] _ (by simp) (fun d hd => by rw [List.mem_singleton.1 hd]; exact HDm.out) HE.out (fun V' hV' _ => ?_)
    have e4 := hV'.x.cell 0
    have e5 := hV'.y.cell 0
    simp at e4 e5
    exact ⟨.tuple #[.slice ao8 n8 cap8, I 0], by simp [results, Tryz.f6, go_sem, e4, e5], _, rfl, hV'.s, hV'.below⟩
  case stop =>
    rintro D c pre V hD hpre h
    exact h.elim

end Go.Proofs.YtlahfffgmfjpaaaGreatDoor

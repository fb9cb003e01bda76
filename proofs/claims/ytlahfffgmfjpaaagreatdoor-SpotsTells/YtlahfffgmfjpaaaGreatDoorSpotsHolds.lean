/-
  (spots.judge).holds: whether a place is free of two sets, by its runs. And newJudge.
-/
import Derived.Test.YtlahfffgmfjpaaaGreatDoorPart18
import Derived.Test.YtlahfffgmfjpaaaGreatDoorSpotsRunIt
namespace Go.Proofs.YtlahfffgmfjpaaaGreatDoor
open Go Go.RowKit Go.Shelf Go.Maps

attribute [local go_sem] Oper.semAt_some ext_const

theorem offs_len (a b c : Nat) : (offsL a b c).length = c * (b * a) := by
  unfold offsL
  rw [List.length_flatMap]
  have : ∀ z : Nat, ((List.range b).flatMap fun (y : Nat) => (List.range a).map fun (x : Nat) => ((x : Int), (y : Int), (z : Int))).length = b * a := fun z => by
    rw [List.length_flatMap]
    simp [List.map_const']
  simp [this, List.map_const']
set_option linter.unusedVariables false in
theorem across_len {d0 d1 d2 : Int} {p : Pl} (h : mayD d0 d1 d2) (hp : mayL d0 d1 d2 p = true) (k : Nat) : (acrossL p.1 k).length ≤ 256 := by
  obtain ⟨b, t0, t1, t2⟩ := p
  obtain ⟨⟨q0, q1, q2⟩, _⟩ := mayL_iff.1 hp
  simp only [mayS] at q0 q1 q2
  obtain ⟨⟨_, u0⟩, ⟨_, u1⟩, _, u2⟩ := h
  have ha : b.a.toNat ≤ 16 := by omega
  have hb : b.b.toNat ≤ 16 := by omega
  have hc : b.c.toNat ≤ 16 := by omega
  have m1 := Nat.mul_le_mul hc hb
  have m2 := Nat.mul_le_mul hc ha
  have m3 := Nat.mul_le_mul hb ha
  show (acrossL b k).length ≤ 256
  unfold acrossL
  split
  · rw [offs_len, Nat.mul_one]; exact m1
  · split
    · rw [offs_len, Nat.one_mul]; exact m2
    · rw [offs_len, Nat.one_mul]; exact m3
theorem runs_len {d0 d1 d2 : Int} {p : Pl} (h : mayD d0 d1 d2) (hp : mayL d0 d1 d2 p = true) : (runsL d0 d1 d2 p).length ≤ 768 := by
  have h0 := across_len h hp 0
  have h1 := across_len h hp 1
  have h2 := across_len h hp 2
  simp only [runsL, runsK, List.length_append, List.length_map]
  omega

theorem MapBut.grown {g : Nat} {w V V' : World} (h : MapBut g w V) {row : Option Nat} (hg : V.grownBy V' row) (hr : ∀ r, row = some r → w.heap.size ≤ r) : MapBut g w V' :=
  ⟨hg.os.trans h.os, hg.tape.trans h.tape, hg.output.trans h.output, Nat.le_trans h.size hg.size, fun k hk hne => (hg.block k (Nat.lt_of_lt_of_le hk h.size) (fun e => by have := hr k e.symm; omega)).trans (h.block k hk hne)⟩
theorem MapBut.setCell {g : Nat} {w V : World} (h : MapBut g w V) {a : Addr} (ha : w.heap.size ≤ a.block) (v : Value) : MapBut g w (V.setCell a v) :=
  h.trans ((MapBut.of_below (Below.refl V.heap.size V)).trans ⟨rfl, rfl, rfl, by simp, fun k hk hne => rfl⟩) |> fun _ =>
  ⟨h.os, h.tape, h.output, by simpa using h.size, fun k hk hne => (RowKit.Below.heap_setCell _ _ _ _ (by omega)).trans (h.block k hk hne)⟩
theorem MapBut.keepsFrom {g n : Nat} {W W' : World} (h : MapBut g W W') (hg : g < n) : KeepsFrom n W W' :=
  ⟨h.size, fun k o hk ho _ => (h.block k (Array.getElem?_eq_some_iff.1 ho).1 (by omega)).trans ho⟩
theorem Jm.grown {W W' : World} {g n : Nat} {D : DataW Unit} (h : Jm W g n D) {row : Option Nat} (hg : W.grownBy W' row) (hr : row ≠ some g) : Jm W' g n D := by
  have hlt := World.ownsMap.lt h
  obtain ⟨es, clock, e, r⟩ := h
  exact ⟨es, clock, (hg.block g hlt (fun e => hr e.symm)).trans e, r⟩
theorem Jm.setCell {W : World} {g n : Nat} {D : DataW Unit} (h : Jm W g n D) {a : Addr} (ha : g ≠ a.block) (v : Value) : Jm (W.setCell a v) g n D := World.ownsMap.setCell h ha v

/-- What a judge's call keeps: the map of a judge knows what is so; what was there lies as it lay. -/
structure HoldPv (w : World) (d0 d1 d2 : Int) (mw lw : List Nat) (g n : Nat) (Bj B4 B5 : Nat) (cj : Array Value) (V : World) : Prop where
  map : ∃ D, Jm V g n D ∧ KnowsM d0 d1 d2 mw lw D
  but : MapBut g w V
  j : Blk V Bj 60 cj
  x : Blk V B4 4 #[.bool false]
  y : Blk V B5 35 #[I 0]
section
variable {w V V' : World} {d0 d1 d2 : Int} {mw lw : List Nat} {g n Bj B4 B5 : Nat} {cj : Array Value}
theorem HoldPv.grown (h : HoldPv w d0 d1 d2 mw lw g n Bj B4 B5 cj V) {row : Option Nat} (hg : V.grownBy V' row) (hr : ∀ r, row = some r → w.heap.size ≤ r ∧ r ≠ g ∧ ∃ o : Obj, V.heap[r]? = some o ∧ o.isCells = false) : HoldPv w d0 d1 d2 mw lw g n Bj B4 B5 cj V' := by
  obtain ⟨⟨D, h1, h2⟩, hb, hj, hx, hy⟩ := h
  have hrc : ∀ r, row = some r → ∃ o : Obj, V.heap[r]? = some o ∧ o.isCells = false := fun r e => (hr r e).2.2
  exact ⟨⟨D, h1.grown hg (fun e => (hr g e).2.1 rfl), h2⟩, hb.grown hg (fun r e => (hr r e).1), hj.kept hg hrc, hx.kept hg hrc, hy.kept hg hrc⟩
theorem HoldPv.later (h : HoldPv w d0 d1 d2 mw lw g n Bj B4 B5 cj V) (hb : Below V.heap.size V V') : HoldPv w d0 d1 d2 mw lw g n Bj B4 B5 cj V' := by
  obtain ⟨⟨D, h1, h2⟩, hB, hj, hx, hy⟩ := h
  exact ⟨⟨D, h1.later hb, h2⟩, hB.trans (MapBut.of_below hb), hj.later hb, hx.later hb, hy.later hb⟩
theorem HoldPv.mono {m : Nat} (h : HoldPv w d0 d1 d2 mw lw g n Bj B4 B5 cj V) (hm : n ≤ m) : HoldPv w d0 d1 d2 mw lw g m Bj B4 B5 cj V := by
  obtain ⟨⟨D, h1, h2⟩, hB, hj, hx, hy⟩ := h
  exact ⟨⟨D, h1.mono hm, h2⟩, hB, hj, hx, hy⟩
/-- A run was asked of. -/
theorem HoldPv.ran {m : Nat} (h : HoldPv w d0 d1 d2 mw lw g n Bj B4 B5 cj V) (hd : ∃ D, Jm V' g m D ∧ KnowsM d0 d1 d2 mw lw D) (hb : MapBut g V V') : HoldPv w d0 d1 d2 mw lw g m Bj B4 B5 cj V' := by
  obtain ⟨⟨D, h1, h2⟩, hB, hj, hx, hy⟩ := h
  exact ⟨hd, hB.trans hb, hb.blk h1 hj, hb.blk h1 hx, hb.blk h1 hy⟩
end

/-- How such a call ends. -/
structure HoldEnd (w : World) (d0 d1 d2 : Int) (mw lw : List Nat) (g n : Nat) (B4 B5 : Nat) (u : Bool) (V : World) : Prop where
  map : ∃ D, Jm V g n D ∧ KnowsM d0 d1 d2 mw lw D
  but : MapBut g w V
  x : Blk V B4 4 #[.bool u]
  y : Blk V B5 35 #[I 0]
section
variable {w V V' : World} {d0 d1 d2 : Int} {mw lw : List Nat} {g n Bj B4 B5 : Nat} {cj : Array Value}
theorem HoldEnd.grown {u : Bool} (h : HoldEnd w d0 d1 d2 mw lw g n B4 B5 u V) {row : Option Nat} (hg : V.grownBy V' row) (hr : ∀ r, row = some r → w.heap.size ≤ r ∧ r ≠ g ∧ ∃ o : Obj, V.heap[r]? = some o ∧ o.isCells = false) : HoldEnd w d0 d1 d2 mw lw g n B4 B5 u V' := by
  obtain ⟨⟨D, h1, h2⟩, hb, hx, hy⟩ := h
  have hrc : ∀ r, row = some r → ∃ o : Obj, V.heap[r]? = some o ∧ o.isCells = false := fun r e => (hr r e).2.2
  exact ⟨⟨D, h1.grown hg (fun e => (hr g e).2.1 rfl), h2⟩, hb.grown hg (fun r e => (hr r e).1), hx.kept hg hrc, hy.kept hg hrc⟩
theorem HoldPv.fin {m : Nat} (h : HoldPv w d0 d1 d2 mw lw g n Bj B4 B5 cj V) (hm : n ≤ m) (hne : g ≠ B4 ∧ g ≠ B5) (hs : w.heap.size ≤ B4 ∧ w.heap.size ≤ B5) (h45 : B4 ≠ B5) (u : Bool) : HoldEnd w d0 d1 d2 mw lw g m B4 B5 u ((V.setCell ⟨B4, 0, none⟩ (.bool u)).setCell ⟨B5, 0, none⟩ (I 0)) := by
  obtain ⟨⟨D, h1, h2⟩, hB, hj, hx, hy⟩ := h
  exact ⟨⟨D, (((h1.mono hm).setCell (a := ⟨B4, 0, none⟩) hne.1 _).setCell (a := ⟨B5, 0, none⟩) hne.2 _), h2⟩, (hB.setCell (a := ⟨B4, 0, none⟩) hs.1 _).setCell (a := ⟨B5, 0, none⟩) hs.2 _, (hx.set 0 _).other _ _ h45, (hy.other _ _ (Ne.symm h45)).set 0 _⟩
theorem HoldPv.stopped (h : HoldPv w d0 d1 d2 mw lw g n Bj B4 B5 cj V) (hne : g ≠ B4 ∧ g ≠ B5) (hs : w.heap.size ≤ B4 ∧ w.heap.size ≤ B5) (h45 : B4 ≠ B5) (hj : Bj ≠ B4 ∧ Bj ≠ B5) : HoldPv w d0 d1 d2 mw lw g n Bj B4 B5 cj ((V.setCell ⟨B4, 0, none⟩ (.bool false)).setCell ⟨B5, 0, none⟩ (I 0)) := by
  have hf := h.fin (Nat.le_refl _) hne hs h45 false
  exact ⟨hf.map, hf.but, (h.j.other _ _ hj.1).other _ _ hj.2, hf.x, hf.y⟩
theorem HoldPv.ended (h : HoldPv w d0 d1 d2 mw lw g n Bj B4 B5 cj V) {m : Nat} (hm : n ≤ m) : HoldEnd w d0 d1 d2 mw lw g m B4 B5 false V := by
  obtain ⟨⟨D, h1, h2⟩, hB, hj, hx, hy⟩ := h
  exact ⟨⟨D, h1.mono hm, h2⟩, hB, hx, hy⟩
end

theorem four_begin (w : World) (u0 u1 u2 u3 : Array Value) (t0 t1 t2 t3 : TypeId) :
    ∃ W : World, (((w.alloc (.cells u0 t0)).alloc (.cells u1 t1)).alloc (.cells u2 t2)).alloc (.cells u3 t3) = W ∧ Below w.heap.size w W ∧ Blk W w.heap.size t0 u0 ∧ Blk W (w.heap.size + 1) t1 u1 ∧ Blk W (w.heap.size + 1 + 1) t2 u2 ∧ Blk W (w.heap.size + 1 + 1 + 1) t3 u3 := by
  refine ⟨_, rfl, ((((Below.refl _ w).alloc (Nat.le_refl _) _).alloc (by simp) _).alloc (by simp; omega) _).alloc (by simp; omega) _, ?_, ?_, ?_, ?_⟩
  · exact (((Blk.new w t0 u0).alloc _).alloc _).alloc _
  · have := ((Blk.new (w.alloc (.cells u0 t0)) t1 u1).alloc (.cells u2 t2)).alloc (.cells u3 t3); simpa using this
  · have := (Blk.new ((w.alloc (.cells u0 t0)).alloc (.cells u1 t1)) t2 u2).alloc (.cells u3 t3); simpa using this
  · have := Blk.new (((w.alloc (.cells u0 t0)).alloc (.cells u1 t1)).alloc (.cells u2 t2)) t3 u3; simpa using this

set_option maxRecDepth 100000 in
set_option maxHeartbeats 8000000 in
theorem jholds_calls {d0 d1 d2 : Int} {mw lw : List Nat} {vm vl : Value} {g n : Nat} {D : DataW Unit} (w : World) (hd : mayD d0 d1 d2) (hw : mayW (d0 * d1 * d2).toNat mw lw = true) (hM : Wds w vm mw) (hL : Wds w vl lw) (hm : Jm w g n D) (hk : KnowsM d0 d1 d2 mw lw D) (hn : n < 900000000) {b : Bx} {p q r : Bool} (hp : mayL d0 d1 d2 (b, p, q, r) = true) :
    Calls Tryz.prog 19 #[J6 d0 d1 d2 vm vl g, P9 b p q r] w fun e W' => e = .returned (.tuple #[.bool (wellL d0 d1 d2 mw lw (b, p, q, r)), I 0]) ∧ (∃ D', Jm W' g (n + 1000) D' ∧ KnowsM d0 d1 d2 mw lw D') ∧ MapBut g w W' := by
  have HRun : Hid (∀ (x : Pl) (k : Nat) (V : World) (D : DataW Unit), k < 1000000000 → x ∈ runsL d0 d1 d2 (b, p, q, r) → Jm V g k D → KnowsM d0 d1 d2 mw lw D → MapBut g w V → Calls Tryz.prog 45 #[J6 d0 d1 d2 vm vl g, P9 x.1 x.2.1 x.2.2.1 x.2.2.2] V fun e W' => e = .returned (.tuple #[.bool (wellL d0 d1 d2 mw lw x), I 0]) ∧ (∃ D', Jm W' g (k + 1) D' ∧ KnowsM d0 d1 d2 mw lw D') ∧ MapBut g V W') := fun x k V D hk1 hx h1 h2 h3 =>
    jrun_calls V hd hw (h3.wds hm hM) (h3.wds hm hL) h1 h2 hk1 (runs_may hd hp hx)
  have HWell : Hid (wellL d0 d1 d2 mw lw (b, p, q, r) = (runsL d0 d1 d2 (b, p, q, r)).all (wellL d0 d1 d2 mw lw)) := well_runs hd hp mw lw
  have HLen : Hid ((runsL d0 d1 d2 (b, p, q, r)).length ≤ 768) := runs_len hd hp
  have HRuns : Hid (∀ w1, Calls Tryz.prog 44 #[A3 d0 d1 d2, P9 b p q r] w1 fun e W' => e = .returned (.func (.func 70) #[] #[.pointer (some ⟨w1.heap.size + 1, 0, none⟩), .pointer (some ⟨w1.heap.size, 0, none⟩)]) ∧ W' = (w1.alloc (.cells #[I d0, I d1, I d2] 23)).alloc (.cells (C9 b p q r) 32)) := fun w1 => runs_calls d0 d1 d2 (b, p, q, r) w1
  have HSeq : Hid (∀ (Bp Bd : Nat) (w1 : World), Blk w1 Bp 32 (C9 b p q r) → Blk w1 Bd 23 #[I d0, I d1, I d2] → SeqO Tryz.prog 70 #[.pointer (some ⟨Bp, 0, none⟩), .pointer (some ⟨Bd, 0, none⟩)] encP okAll (runsL d0 d1 d2 (b, p, q, r)) w1) := fun Bp Bd w1 h1 h2 => runs_seq hd hp w1 h1 h2
  have HMap : Hid (∃ D, Jm w g n D ∧ KnowsM d0 d1 d2 mw lw D) := ⟨D, hm, hk⟩
  have hg : g < w.heap.size := World.ownsMap.lt hm
  obtain ⟨_, _, _, rfl⟩ := hM.form
  obtain ⟨_, _, _, rfl⟩ := hL.form
  rename_i am nm cm al nl cl
  clear hd hw hM hL hm hk hp
  obtain ⟨W, hW, hB0, kj, kp, k4, k5⟩ := four_begin w #[I d0, I d1, I d2, .slice am nm cm, .slice al nl cl, .map (some g)] (C9 b p q r) #[.bool false] #[I 0] 60 32 4 35
  have HW : Hid ((((w.alloc (.cells #[I d0, I d1, I d2, .slice am nm cm, .slice al nl cl, .map (some g)] 60)).alloc (.cells (C9 b p q r) 32)).alloc (.cells #[.bool false] 4)).alloc (.cells #[I 0] 35) = W) := hW
  clear hW
  refine (callsIn_wide (n := 3)).1 ?_
  refine callsIn_of_wp_marks Tryz.func19 rfl trivial ?_ rfl
  simp only [Tryz.ntmps19, List.size_toArray, List.length_cons, List.length_nil, Nat.reduceAdd, Nat.reduceSub, Array.replicate_succ, Array.replicate_zero, List.push_toArray, List.append_toArray, List.nil_append, List.cons_append]
  gi_wp2_with fail
  refine ⟨trivial, (callsIn_wide.2 (HRuns.out _)).mono ?_⟩
  rintro e w1 ⟨rfl, rfl⟩
  rw [HW.out]
  have hW1 : Below W.heap.size W ((W.alloc (.cells #[I d0, I d1, I d2] 23)).alloc (.cells (C9 b p q r) 32)) := ((Below.refl _ W).alloc (Nat.le_refl _) _).alloc (by simp) _
  have hsq := HSeq.out (W.heap.size + 1) W.heap.size ((W.alloc (.cells #[I d0, I d1, I d2] 23)).alloc (.cells (C9 b p q r) 32)) (by have := Blk.new (W.alloc (.cells #[I d0, I d1, I d2] 23)) 32 (C9 b p q r); simpa using this) ((Blk.new W _ _).alloc _)
  have hpv : HoldPv w d0 d1 d2 mw lw g n w.heap.size (w.heap.size + 1 + 1) (w.heap.size + 1 + 1 + 1) #[I d0, I d1, I d2, .slice am nm cm, .slice al nl cl, .map (some g)] ((W.alloc (.cells #[I d0, I d1, I d2] 23)).alloc (.cells (C9 b p q r) 32)) := by
    obtain ⟨D, h1, h2⟩ := HMap.out
    exact ⟨⟨D, (h1.later hB0).later hW1, h2⟩, (MapBut.of_below hB0).trans (MapBut.of_below hW1), kj.later hW1, k4.later hW1, k5.later hW1⟩
  have HU : Hid (g < ((W.alloc (.cells #[I d0, I d1, I d2] 23)).alloc (.cells (C9 b p q r) 32)).heap.size ∧ w.heap.size ≤ ((W.alloc (.cells #[I d0, I d1, I d2] 23)).alloc (.cells (C9 b p q r) 32)).heap.size) := by
    have h1 := hW1.size
    have h2 := hB0.size
    exact ⟨by omega, by omega⟩
  generalize (W.alloc (.cells #[I d0, I d1, I d2] 23)).alloc (.cells (C9 b p q r) 32) = U at *
  clear HMap HW kj kp k4 k5 hW1 hB0
  have h45 : Hid (w.heap.size + 1 + 1 < U.heap.size ∧ w.heap.size + 1 + 1 + 1 < U.heap.size) := ⟨hpv.x.lt, hpv.y.lt⟩
  have hsz : Hid (w.heap.size ≤ w.heap.size + 1 + 1 ∧ w.heap.size ≤ w.heap.size + 1 + 1 + 1) := ⟨by omega, by omega⟩
  have hne : Hid (g ≠ w.heap.size + 1 + 1 ∧ g ≠ w.heap.size + 1 + 1 + 1) := ⟨by omega, by omega⟩
  have hjb : Hid (w.heap.size + 1 + 1 ≠ w.heap.size + 1 + 1 + 1 ∧ (w.heap.size ≠ w.heap.size + 1 + 1 ∧ w.heap.size ≠ w.heap.size + 1 + 1 + 1)) := ⟨by omega, by omega, by omega⟩
  generalize hB5 : w.heap.size + 1 + 1 + 1 = B5 at *
  generalize hB4 : w.heap.size + 1 + 1 = B4 at *
  generalize hB3 : w.heap.size + 1 = B3 at *
  generalize hBj : w.heap.size = Bj at *
  gi_wp2_with fail
  refine wpIn_rangeO rfl (enters_of Tryz.func70 (by kernel_rfl) rfl) hsq (Below.refl _ _) (fun _ => rfl)
    (fun pre V => (∀ x ∈ pre, wellL d0 d1 d2 mw lw x = true) ∧ HoldPv w d0 d1 d2 mw lw g (n + pre.length) Bj B4 B5 #[I d0, I d1, I d2, .slice am nm cm, .slice al nl cl, .map (some g)] V)
    (fun c pre V => c = .ret ∧ (∃ x ∈ pre, wellL d0 d1 d2 mw lw x = false) ∧ HoldPv w d0 d1 d2 mw lw g (n + pre.length) Bj B4 B5 #[I d0, I d1, I d2, .slice am nm cm, .slice al nl cl, .map (some g)] V)
    (fun pre A A' row hs hgr hr => ⟨hs.1, hs.2.grown hgr fun r e => ⟨by have := (hr r e).1; have := HU.out.2; omega, by have := (hr r e).1; have := HU.out.1; omega, (hr r e).2⟩⟩)
    (fun c pre A A' row hs hgr hr => ⟨hs.1, hs.2.1, hs.2.2.grown hgr fun r e => ⟨by have := (hr r e).1; have := HU.out.2; omega, by have := (hr r e).1; have := HU.out.1; omega, (hr r e).2⟩⟩)
    ⟨fun x hx => by (cases hx), hpv⟩
    (fun x a' V => ∃ Bf, a' = { tmps := #[J6 d0 d1 d2 (.slice am nm cm) (.slice al nl cl) g, P9 b p q r, .pointer (some ⟨Bj, 0, none⟩), .pointer (some ⟨B3, 0, none⟩), .pointer (some ⟨B4, 0, none⟩), .pointer (some ⟨B5, 0, none⟩), .pointer (some ⟨Bf, 0, none⟩), undef, undef, .pointer (some ⟨Bj, 0, none⟩), .agg #[I d0, I d1, I d2], P9 b p q r, .func (.func 70) #[] #[.pointer (some ⟨W.heap.size + 1, 0, none⟩), .pointer (some ⟨W.heap.size, 0, none⟩)], PV x, undef, undef, undef, undef, undef, undef, undef, undef, undef, undef, undef, undef, undef], defers := [] } ∧ Blk V Bf 32 (C9 x.1 x.2.1 x.2.2.1 x.2.2.2))
    (fun x a' _ A0 A1 row hs hgr hr => by
      obtain ⟨Bf, e, hb⟩ := hs
      exact ⟨Bf, e, hb.kept hgr (fun r e => (hr r e).2)⟩) ?assign ?body ?done ?stop
  case assign =>
    rintro l2 pre ⟨x, x0, x1, x2⟩ V K hI hK
    have hBa : Below V.heap.size V (V.alloc (.cells (C9 x x0 x1 x2) 32)) := (Below.refl _ V).alloc (Nat.le_refl _) _
    gi_wp2
    exact hK _ _ ((keeps_below hBa).from _) (KeepT.below _ hBa) ⟨hI.1, hI.2.later hBa⟩ ⟨_, rfl, Blk.new _ _ _⟩
  case body =>
    rintro l2 pre ⟨x, x0, x1, x2⟩ a' V hpre hl0 _ ⟨hwl, hpv2⟩ ⟨Bf, rfl, kf⟩
    dsimp only at kf ⊢
    have hx : (x, x0, x1, x2) ∈ runsL d0 d1 d2 (b, p, q, r) := hpre.subset (by simp)
    have hln : pre.length < 768 := by
      have h1 := hpre.length_le
      have h2 := HLen.out
      rw [List.length_append, List.length_singleton] at h1
      omega
    obtain ⟨DV, hm1, hk1⟩ := hpv2.map
    have HC := HRun.out (x, x0, x1, x2) (n + pre.length) V DV (by omega) hx hm1 hk1 hpv2.but
    dsimp only at HC
    have HWl : Hid (∀ y ∈ pre, wellL d0 d1 d2 mw lw y = true) := hwl
    have HV : Hid (HoldPv w d0 d1 d2 mw lw g (n + pre.length) Bj B4 B5 #[I d0, I d1, I d2, .slice am nm cm, .slice al nl cl, .map (some g)] V) := hpv2
    have HA : Hid ((n + pre.length) + 1 = n + (pre ++ [(x, x0, x1, x2)]).length) := by show _ = _; simp; omega
    have hin : Hid ((x, x0, x1, x2) ∈ pre ++ [(x, x0, x1, x2)]) := by show _ ∈ _; simp
    have j0 := hpv2.j.cell 0; have j1 := hpv2.j.cell 1; have j2 := hpv2.j.cell 2; have j3 := hpv2.j.cell 3; have j4 := hpv2.j.cell 4; have j5 := hpv2.j.cell 5
    simp only [List.getElem?_toArray, List.getElem?_cons_zero, List.getElem?_cons_succ] at j0 j1 j2 j3 j4 j5
    have l0 := hpv2.j.lt
    obtain ⟨⟨b0, b1, b2⟩, ⟨b3, b4, b5⟩, ⟨b6, b7, b8⟩, l1⟩ := kf.nine (Below.refl _ V)
    clear hwl hpv2 hm1 hk1 hpre hx hpv kf
    generalize hwx : wellL d0 d1 d2 mw lw (x, x0, x1, x2) = ans at HC
    have HX : Hid (wellL d0 d1 d2 mw lw (x, x0, x1, x2) = ans) := hwx
    clear hwx
    have HC1 : Hid (Calls Tryz.prog 45 #[J6 d0 d1 d2 (.slice am nm cm) (.slice al nl cl) g, P9 x x0 x1 x2] V fun e W' => e = .returned (.tuple #[.bool ans, I 0]) ∧ (∃ D', Jm W' g ((n + pre.length) + 1) D' ∧ KnowsM d0 d1 d2 mw lw D') ∧ MapBut g V W') := HC
    clear HC
    gi_wp2_with fail
    refine ⟨trivial, rfl, (CallsIn.inRound l2 (callsIn_wide.2 HC1.out)).mono ?_⟩
    rintro e V2 ⟨rfl, hD2, hM2⟩
    have hpv3 := HV.out.ran hD2 hM2
    rw [HA.out] at hpv3
    have HV3 : Hid (HoldPv w d0 d1 d2 mw lw g (n + (pre ++ [(x, x0, x1, x2)]).length) Bj B4 B5 #[I d0, I d1, I d2, .slice am nm cm, .slice al nl cl, .map (some g)] V2) := hpv3
    have HM2 : Hid (MapBut g V V2) := hM2
    have f4 := hpv3.x.frozen 0
    have f5 := hpv3.y.frozen 0
    have y4 := hpv3.x.cell 0
    have y5 := hpv3.y.cell 0
    have z4 := hpv3.x.lt
    have z5 := hpv3.y.lt
    simp at y4 y5
    obtain ⟨DV2, hm2, _⟩ := HV.out.map
    have HMm : Hid (Jm V g (n + pre.length) DV2) := hm2
    clear hpv3 hD2 hM2 hm2 j0 j1 j2 j3 j4 j5 l0 b0 b1 b2 b3 b4 b5 b6 b7 b8 l1
    cases ans
    · gi_wp2
      refine ⟨(HM2.out.keepsFrom HU.out.1).trans ((keepsFrom_setCell _ (a := ⟨B4, 0, none⟩) h45.out.1 _).trans (keepsFrom_setCell _ (a := ⟨B5, 0, none⟩) h45.out.2 _)), rfl, ⟨_, hin.out, HX.out⟩, HV3.out.stopped hne.out (by have := hsz.out; omega) hjb.out.1 hjb.out.2⟩
    · gi_wp2
      refine ⟨HM2.out.keepsFrom HU.out.1, HM2.out.keepT HMm.out okAll, fun y hy => ?_, HV3.out⟩
      rcases List.mem_append.1 hy with hy | hy
      · exact HWl.out y hy
      · rw [List.mem_singleton.1 hy]; exact HX.out
  case done =>
    rintro Dm V hD ⟨hwl, hpv2⟩ hDV
    have hE : HoldEnd w d0 d1 d2 mw lw g (n + 1000) B4 B5 true ((V.setCell ⟨B4, 0, none⟩ (.bool true)).setCell ⟨B5, 0, none⟩ (I 0)) := hpv2.fin (by have := HLen.out; omega) hne.out (by have := hsz.out; omega) hjb.out.1 true
    have HE : Hid (HoldEnd w d0 d1 d2 mw lw g (n + 1000) B4 B5 true ((V.setCell ⟨B4, 0, none⟩ (.bool true)).setCell ⟨B5, 0, none⟩ (I 0))) := hE
    have hDm : ((V.setCell ⟨B4, 0, none⟩ (.bool true)).setCell ⟨B5, 0, none⟩ (I 0)).heap[Dm]? = some (.deferred (some [])) :=
      (RowKit.Below.heap_setCell _ _ _ _ (by have := h45.out.2; show Dm ≠ B5; omega)).trans ((RowKit.Below.heap_setCell _ _ _ _ (by have := h45.out.1; show Dm ≠ B4; omega)).trans hDV)
    have HDm : Hid (U.heap.size ≤ Dm ∧ ((V.setCell ⟨B4, 0, none⟩ (.bool true)).setCell ⟨B5, 0, none⟩ (I 0)).heap[Dm]? = some (.deferred (some []))) := ⟨hD, hDm⟩
    have HAn : Hid (wellL d0 d1 d2 mw lw (b, p, q, r) = true) := by
      show _ = _
      rw [HWell.out, List.all_eq_true]
      exact hwl
    have f4 := hpv2.x.frozen 0
    have f5 := hpv2.y.frozen 0
    have y4 := hpv2.x.cell 0
    have y5 := hpv2.y.cell 0
    have z4 := hpv2.x.lt
    have z5 := hpv2.y.lt
    simp at y4 y5
    clear hwl hpv2 hE hDm hDV hD
    gi_wp2
    refine leaves_own (n := U.heap.size) (fun V' => HoldEnd w d0 d1 d2 mw lw g (n + 1000) B4 B5 true V') (fun _ A A' row hs hgr hr => hs.grown hgr fun r e => ⟨by have := (hr r e).1; have := HU.out.2; omega, by have := (hr r e).1; have := HU.out.1; omega, (hr r e).2⟩) [Dm] _ (by simp) (fun d hd => by rw [List.mem_singleton.1 hd]; exact HDm.out) HE.out (fun V' hV' _ => ?_)
    have e4 := hV'.x.cell 0
    have e5 := hV'.y.cell 0
    simp at e4 e5
    exact ⟨.tuple #[.bool true, I 0], by simp [results, Tryz.f19, go_sem, e4, e5], by rw [HAn.out], hV'.map, hV'.but⟩
  case stop =>
    rintro Dm c pre V hD hpre ⟨rfl, ⟨x, hx, hwx⟩, hpv2⟩ hDV
    have HAn : Hid (wellL d0 d1 d2 mw lw (b, p, q, r) = false) := by
      show _ = _
      rw [HWell.out, Bool.eq_false_iff]
      intro h
      rw [List.all_eq_true] at h
      rw [h x (hpre.subset hx)] at hwx
      cases hwx
    have hln := hpre.length_le
    have HE : Hid (HoldEnd w d0 d1 d2 mw lw g (n + 1000) B4 B5 false V) := hpv2.ended (by have := HLen.out; omega)
    have HDm : Hid (U.heap.size ≤ Dm ∧ V.heap[Dm]? = some (.deferred (some []))) := ⟨hD, hDV⟩
    clear hx hwx hpv2 hDV hD hln hpre
    gi_wp2
    refine leaves_own (n := U.heap.size) (fun V' => HoldEnd w d0 d1 d2 mw lw g (n + 1000) B4 B5 false V') (fun _ A A' row hs hgr hr => hs.grown hgr fun r e => ⟨by have := (hr r e).1; have := HU.out.2; omega, by have := (hr r e).1; have := HU.out.1; omega, (hr r e).2⟩) [Dm] _ (by simp) (fun d hd => by rw [List.mem_singleton.1 hd]; exact HDm.out) HE.out (fun V' hV' _ => ?_)
    have e4 := hV'.x.cell 0
    have e5 := hV'.y.cell 0
    simp at e4 e5
    exact ⟨.tuple #[.bool false, I 0], by simp [results, Tryz.f19, go_sem, e4, e5], by rw [HAn.out], hV'.map, hV'.but⟩

set_option maxRecDepth 100000 in
theorem newJudge_calls {d0 d1 d2 : Int} {vm vl : Value} {mw lw : List Nat} (w : World) (hM : Wds w vm mw) (hL : Wds w vl lw) :
    Calls Tryz.prog 17 #[A3 d0 d1 d2, vm, vl] w fun e W' => ∃ g, e = .returned (J6 d0 d1 d2 vm vl g) ∧ w.heap.size ≤ g ∧ Jm W' g 0 (.map []) ∧ Below w.heap.size w W' := by
  have hmm := @run_makeMap Tryz.prog
  obtain ⟨_, _, _, rfl⟩ := hM.form
  obtain ⟨_, _, _, rfl⟩ := hL.form
  clear hM hL
  rename_i am nm cm al nl cl
  have HJ : Hid (Jm (((w.alloc (.cells #[I d0, I d1, I d2] 23)).alloc (.cells #[I d0, I d1, I d2, .slice am nm cm, .slice al nl cl, .map (some (w.heap.size + 1 + 1))] 60)).alloc (.map #[] 0)) (w.heap.size + 1 + 1) 0 (.map [])) := by
    have := World.ownsMap_made ((w.alloc (.cells #[I d0, I d1, I d2] 23)).alloc (.cells #[I d0, I d1, I d2, .slice am nm cm, .slice al nl cl, .map (some (w.heap.size + 1 + 1))] 60)) Tryz.prog 32 verdE
    simpa [Hid] using this
  go_enter Tryz.func17, Tryz.ntmps17
  go_wp2
  exact bodyPost_ret (v := J6 d0 d1 d2 (.slice am nm cm) (.slice al nl cl) (w.heap.size + 1 + 1)) (by simp [results, Tryz.f17, go_sem]) rfl ⟨_, rfl, by omega, HJ.out, (((Below.refl _ w).alloc (Nat.le_refl _) _).alloc (by simp) _).alloc (by simp; omega) _⟩

end Go.Proofs.YtlahfffgmfjpaaaGreatDoor

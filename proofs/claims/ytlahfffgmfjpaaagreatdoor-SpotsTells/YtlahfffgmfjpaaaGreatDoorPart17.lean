/-
  Lists of what is asked for, in memory that a call made: read, lengthened, made; the law of such keys in a map.
-/
import Derived.Test.YtlahfffgmfjpaaaGreatDoorPart16
import Derived.Maps.OwnSet
import Derived.Maps.Views
import Derived.DeepKeys4
import Derived.Maps.AppendAt
import Derived.Test.YtlahfffgmfjpaaaGreatDoorPart13
import Derived.Test.YtlahfffgmfjpaaaGreatDoorPart12
import Derived.Laws.AppendOwn
import Derived.Laws.AppendOwnNone
import Derived.Maps.OwnOps
namespace Go.Proofs.YtlahfffgmfjpaaaGreatDoor
open Go Go.RowKit Go.Shelf

def flatW (ws : List Wt) : List Value := ws.flatMap cellsW
theorem flatW_len : ∀ ws : List Wt, (flatW ws).length = ws.length * 7
  | [] => rfl
  | w :: ws => by
    have := flatW_len ws
    simp only [flatW, List.flatMap_cons, List.length_append, cellsW_len, List.length_cons] at this ⊢
    omega
theorem flatW_snoc (ws : List Wt) (w : Wt) : flatW (ws ++ [w]) = flatW ws ++ cellsW w := by simp [flatW]
theorem flatW_get : ∀ (ws : List Wt) (k i : Nat), i < 7 → k < ws.length → (flatW ws)[k * 7 + i]? = (cellsW (ws.getD k default))[i]?
  | [], k, i, _, hk => by simp at hk
  | w :: ws, 0, i, hi, _ => by
    rw [flatW, List.flatMap_cons, List.getElem?_append_left (by rw [cellsW_len]; omega)]
    simp
  | w :: ws, k + 1, i, hi, hk => by
    have := flatW_get ws k i hi (by simpa using hk)
    rw [flatW, List.flatMap_cons, List.getElem?_append_right (by rw [cellsW_len]; omega), cellsW_len]
    rw [show (k + 1) * 7 + i - 7 = k * 7 + i by omega]
    exact this

/-- The slice v holds just ws, in a block of its own from number base on. -/
def Wl (W : World) (base : Nat) (v : Value) (ws : List Wt) : Prop := W.ownsRow base 26 7 v ws.length (flatW ws)

theorem Wl.nil (W : World) (base : Nat) : Wl W base (.slice none 0 0) [] := World.ownsRow_nil _ _ _ _
theorem Wl.later {W W' : World} {base : Nat} {v : Value} {xs : List Wt} (h : Wl W base v xs) (hb : Below W.heap.size W W') : Wl W' base v xs := by
  obtain ⟨h1, h2⟩ := h
  refine ⟨h1, ?_⟩
  rcases h2 with h2 | ⟨g, cap, cur, e, hg, hh, r⟩
  · exact .inl h2
  · exact .inr ⟨g, cap, cur, e, hg, (hb.block g (Array.getElem?_eq_some_iff.1 hh).1).trans hh, r⟩
theorem Wl.weak {W : World} {base base' : Nat} {v : Value} {xs : List Wt} (h : Wl W base v xs) (hb : base' ≤ base) : Wl W base' v xs := by
  obtain ⟨h1, h2⟩ := h
  refine ⟨h1, ?_⟩
  rcases h2 with h2 | ⟨g, cap, cur, e, hg, r⟩
  · exact .inl h2
  · exact .inr ⟨g, cap, cur, e, Nat.le_trans hb hg, r⟩

/-- Block g holds, from cell n on, one that is asked for. -/
def At7 (W : World) (g n : Nat) (w : Wt) : Prop := ∃ cur, Blk W g 26 cur ∧ ∀ i, i < 7 → cur[n + i]? = (cellsW w)[i]?
theorem At7.later {W W' : World} {g n : Nat} {w : Wt} (h : At7 W g n w) (hb : Below W.heap.size W W') : At7 W' g n w := by
  obtain ⟨cur, h1, h2⟩ := h
  exact ⟨cur, h1.later hb, h2⟩
theorem At7.cells {W : World} {g n : Nat} {x y z : Int} {p q r t : Bool} (h : At7 W g n (x, y, z, p, q, r, t)) :
    W.cell? ⟨g, n, none⟩ = some (.int .i64 x) ∧ W.cell? ⟨g, n + 1, none⟩ = some (.int .i64 y) ∧ W.cell? ⟨g, n + 2, none⟩ = some (.int .i64 z) ∧
    W.cell? ⟨g, n + 3, none⟩ = some (.bool p) ∧ W.cell? ⟨g, n + 4, none⟩ = some (.bool q) ∧ W.cell? ⟨g, n + 5, none⟩ = some (.bool r) ∧ W.cell? ⟨g, n + 6, none⟩ = some (.bool t) := by
  obtain ⟨cur, h1, h2⟩ := h
  exact ⟨(h1.cell n).trans (h2 0 (by omega)), (h1.cell _).trans (h2 1 (by omega)), (h1.cell _).trans (h2 2 (by omega)), (h1.cell _).trans (h2 3 (by omega)), (h1.cell _).trans (h2 4 (by omega)), (h1.cell _).trans (h2 5 (by omega)), (h1.cell _).trans (h2 6 (by omega))⟩
theorem At7.lt {W : World} {g n : Nat} {w : Wt} (h : At7 W g n w) : g < W.heap.size := by
  obtain ⟨cur, h1, _⟩ := h
  exact h1.lt

/-- What a walk asks of a list that it reads. -/
theorem Wl.view {W : World} {base : Nat} {v : Value} {ws : List Wt} (h : Wl W base v ws) :
    ∃ ao cap, v = .slice ao ws.length cap ∧ ∀ k : Nat, k < ws.length → ∃ g, ao = some ⟨g, 0, none⟩ ∧ At7 W g (k * 7) (ws.getD k default) := by
  obtain ⟨h1, h2⟩ := h
  rcases h2 with ⟨rfl, hn⟩ | ⟨g, cap, cur, rfl, hg, hh, hc, hc2, hs, ht⟩
  · exact ⟨none, 0, by rw [hn], fun k hk => by omega⟩
  · refine ⟨_, cap, rfl, fun k hk => ⟨g, rfl, cur, hh, fun i hi => ?_⟩⟩
    have := congrArg (fun l => l[k * 7 + i]?) ht
    simp only [List.getElem?_take_of_lt (show k * 7 + i < ws.length * 7 by omega), Array.getElem?_toList] at this
    rw [this, flatW_get ws k i hi hk]

set_option maxRecDepth 100000 in
theorem info_w : (Tryz.prog.info? 26).map (fun i => (i.zero, i.size, i.bytes)) = some (some (V7 0 0 0 false false false false), 7, 32) := by kernel_rfl

abbrev cells7 (x y z : Int) (p q r t : Bool) : Array Value := #[.int .i64 x, .int .i64 y, .int .i64 z, .bool p, .bool q, .bool r, .bool t]

/-- 'list = append(list, w)', the list a call's own. -/
theorem wpList_appW {ops : Array Oper} {rest : List Oper} {o : Oper} {a : Act} {Q : Exit → Act → World → Prop} {W : World} {base : Nat} {v : Value} {xs : List Wt} {x y z : Int} {p q r t : Bool} (hgd : o.guard = none) (s u : Operand)
    (ho : o.op = .call { callee := .builtin .append, args := #[s, u], argTypes := #[51, 51] }) (hs : a.eval s = v) (hx : a.eval u = .slice (some ⟨W.heap.size, 0, none⟩) 1 1)
    (hown : Wl W base v xs) (hl : xs.length ≤ 100000) (hb : base ≤ W.heap.size)
    (h : ∀ v' w', Wl w' base v' (xs ++ [(x, y, z, p, q, r, t)]) → W.grownBy w' v.ownBlock → (v'.ownBlock = v.ownBlock ∨ ∃ g, v'.ownBlock = some g ∧ W.heap.size < g) → wpList Tryz.prog ops Q rest (a.put o.dst v') w') : wpList Tryz.prog ops Q (o :: rest) a (W.alloc (.cells (cells7 x y z p q r t) 26)) := by
  obtain ⟨i0, hi, hz0, hz1, hz2⟩ := info_parts info_w
  refine wpList_append_own_at (w := W.alloc (.cells (cells7 x y z p q r t) 26)) hgd s u 51 ho base 26 i0 _ 7 32 Tryz.underlying51 hi hz0 hz1 hz2 rfl (by decide) v xs.length _ hs (hown.alloc _) ⟨W.heap.size, 0, none⟩ 1 1 (cells7 x y z p q r t).toList hx rfl ?_ ?_ ?_ ?_ ?_ ?_
  · intro j w hj
    have hB := (Blk.new W 26 (cells7 x y z p q r t)).cell j
    rw [show (⟨W.heap.size, 0, none⟩ : Addr).add j = ⟨W.heap.size, j, none⟩ by by_cases h : j = 0 <;> simp [Addr.add, h], hB]
    simpa using hj
  · intro w hw; simp at hw; rcases hw with rfl | rfl | rfl | rfl | rfl | rfl | rfl <;> rfl
  · unfold maxLen; omega
  · omega
  · simp; omega
  · intro v' w1 hown' hgrow _ hloc
    have hW : Wl w1 base v' (xs ++ [(x, y, z, p, q, r, t)]) := by
      unfold Wl
      rw [flatW_snoc, List.length_append]
      exact hown'
    refine h v' w1 hW ?_ ?_
    · exact (World.grownBy_alloc W _ _).trans hgrow
    · exact hloc.imp id fun e => ⟨_, e, by simp⟩

/-- 'make([]api.Wants, 0, n)'. -/
theorem wpList_mkWl {ops : Array Oper} {rest : List Oper} {o : Oper} {a : Act} {Q : Exit → Act → World → Prop} {W : World} {base : Nat} (hgd : o.guard = none) (l c : Operand) (ho : o.op = Op.makeSlice 51 l c) (n : Int)
    (hl : a.eval l = .int .i64 0) (hc : a.eval c = .int .i64 n) (h0 : 0 ≤ n) (h1 : n ≤ 100000) (hb : base ≤ W.heap.size)
    (h : ∀ v' w', Wl w' base v' [] → Below base W w' → v'.ownBlock = some W.heap.size → wpList Tryz.prog ops Q rest (a.put o.dst v') w') : wpList Tryz.prog ops Q (o :: rest) a W := by
  obtain ⟨i0, hi, hz0, hz1, hz2⟩ := info_parts info_w
  refine wpList_make_own W hgd l c 51 ho base 26 i0 _ 7 Tryz.underlying51 hi hz0 hz1 .i64 .i64 n n.toNat hl hc (by omega) (by rw [hz2]; omega) (by unfold maxLen; omega) hb ?_
  intro w' h1 h2
  exact h _ w' h1 ((Below.refl base W).grown h2 hb (fun k hk => by cases hk)) rfl

/-- '[]api.Wants{w}'. -/
theorem Wl.one (W : World) (base : Nat) (hb : base ≤ W.heap.size) (x y z : Int) (p q r t : Bool) : Wl (W.alloc (.cells (cells7 x y z p q r t) 26)) base (.slice (some ⟨W.heap.size, 0, none⟩) 1 1) [(x, y, z, p, q, r, t)] :=
  ⟨rfl, .inr ⟨W.heap.size, 1, cells7 x y z p q r t, rfl, hb, Blk.new W _ _, Nat.le_refl _, by unfold maxLen; omega, rfl, rfl⟩⟩

set_option maxRecDepth 100000 in
/-- One that is asked for, as a key of a map. -/
theorem rowW : (26 : TypeId) < Tryz.prog.types.size := of_decide_eq_true (by kernel_rfl)
set_option maxRecDepth 100000 in
theorem laidOutW : laidOutB Tryz.prog = true := by kernel_rfl
set_option maxRecDepth 100000 in
theorem wideW : (match Tryz.prog.underlying 26 with | some (.array _ _) | some (.struct _) => true | _ => false) = true := by kernel_rfl
set_option maxRecDepth 100000 in
theorem lawW : Maps.Keyed Tryz.prog 26 := Maps.Keyed.of_law (deep_law_laid laidOutW (m := 3) (by omega) rowW (by kernel_rfl) wideW)
set_option maxRecDepth 100000 in
theorem keyTypeW : Tryz.prog.keyType 26 = true := by kernel_rfl
def keyLitsW : Wt → List Lit | (x, y, z, p, q, r, t) => [.int .i64 x, .int .i64 y, .int .i64 z, .bool p, .bool q, .bool r, .bool t]
def keyW (w : Wt) : Lit := .string (keyBytes (keyLitsW w))
theorem wf_may {x : Int} (h : 1 ≤ x ∧ x ≤ 16) : (Lit.int .i64 x).wf = true := WalkArith.wf_i64 (by omega)
set_option maxRecDepth 100000 in
theorem key_w {x y z : Int} {p q r t : Bool} (h : mayT (x, y, z, p, q, r, t)) : keyOf Tryz.prog 26 (V7 x y z p q r t) = some (keyW (x, y, z, p, q, r, t)) := by
  simp only [mayT] at h
  have wx := wf_may (x := x) (by omega)
  have wy := wf_may (x := y) (by omega)
  have wz := wf_may (x := z) (by omega)
  obtain ⟨f0, f1, f2, hu, t0, o0, n0, t1, o1, n1, t2, o2, n2⟩ : ∃ f0 f1 f2, Tryz.prog.underlying 26 = some (.struct #[f0, f1, f2]) ∧ f0.type = 22 ∧ f0.offset = 0 ∧ (f0.name != "_") = true ∧ f1.type = 24 ∧ f1.offset = 3 ∧ (f1.name != "_") = true ∧ f2.type = 4 ∧ f2.offset = 6 ∧ (f2.name != "_") = true := ⟨_, _, _, rfl, rfl, rfl, rfl, rfl, rfl, rfl, rfl, rfl, rfl⟩
  have c7 : Tryz.prog.cellsOf 26 = 7 := by kernel_rfl
  have c3 : Tryz.prog.cellsOf 22 = 3 := by kernel_rfl
  have c3' : Tryz.prog.cellsOf 24 = 3 := by kernel_rfl
  have c1 : Tryz.prog.cellsOf 3 = 1 := by kernel_rfl
  have c1' : Tryz.prog.cellsOf 4 = 1 := by kernel_rfl
  have hI : ∀ d (a b c : Int), (Lit.int .i64 a).wf = true → (Lit.int .i64 b).wf = true → (Lit.int .i64 c).wf = true → Tryz.prog.keyLits (d + 2) 22 [.int .i64 a, .int .i64 b, .int .i64 c] = some [.int .i64 a, .int .i64 b, .int .i64 c] := by
    intro d a b c ha hb hc
    simp [Program.keyLits, Tryz.underlying22, Tryz.underlying3, c3, c1, show List.range 3 = [0, 1, 2] from rfl, ha, hb, hc]
  have hB : ∀ d (a b c : Bool), Tryz.prog.keyLits (d + 2) 24 [.bool a, .bool b, .bool c] = some [.bool a, .bool b, .bool c] := by
    intro d a b c
    simp [Program.keyLits, Tryz.underlying24, Tryz.underlying4, c3', c1', show List.range 3 = [0, 1, 2] from rfl]
  have hT : ∀ d (a : Bool), Tryz.prog.keyLits (d + 1) 4 [.bool a] = some [.bool a] := by
    intro d a
    simp [Program.keyLits, Tryz.underlying4]
  have hL : ∀ d, Tryz.prog.keyLits (d + 3) 26 [.int .i64 x, .int .i64 y, .int .i64 z, .bool p, .bool q, .bool r, .bool t] = some (keyLitsW (x, y, z, p, q, r, t)) := by
    intro d
    have hall : (#[f0, f1, f2] : Array Field).all (fun f => f.name != "_") = true := by
      rw [← Array.all_toList]
      simp only [List.all_cons, List.all_nil, n0, n1, n2, Bool.and_self]
    unfold Program.keyLits
    rw [hu]
    simp only [c7, hall, List.length_cons, List.length_nil, and_self, if_true]
    simp [t0, o0, t1, o1, t2, o2, c3, c3', c1', hI d x y z wx wy wz, hB, hT, keyLitsW]
  obtain ⟨m, hm⟩ : ∃ m, Tryz.prog.types.size + 1 = m + 3 := ⟨Tryz.prog.types.size - 2, by have hr : (26 : Nat) < Tryz.prog.types.size := rowW; omega⟩
  have hf : (V7 x y z p q r t).formed Tryz.prog 26 = true := by simp [Value.formed, hu, c7]
  unfold keyOf
  rw [hu]
  simp only [keyTypeW, hf, Bool.and_self, if_true]
  rw [hm]
  have : (V7 x y z p q r t).cells.toList = [.int .i64 x, .int .i64 y, .int .i64 z, .bool p, .bool q, .bool r, .bool t] := rfl
  rw [this, hL]
  rfl
theorem keyW_inj {a b : Wt} (ha : mayT a) (hb : mayT b) (h : keyW a = keyW b) : a = b := by
  obtain ⟨x, y, z, p, q, r, t⟩ := a
  obtain ⟨x', y', z', p', q', r', t'⟩ := b
  have := lawW.inj (key_w ha) ((key_w hb).trans (by rw [h]))
  simp only [Value.agg.injEq, Array.mk.injEq, List.cons.injEq, Value.int.injEq, Value.bool.injEq] at this
  simp_all
theorem zeroI (w : World) : (zeroValue 3).run Tryz.prog w = .ok (.int .i64 0) w := by kernel_rfl

end Go.Proofs.YtlahfffgmfjpaaaGreatDoor

/-
  Lists of places in memory that a call made: read, lengthened; '==' between two places; a place as a key of a map.
-/
namespace Go.Proofs.YtlahfffgmfjpaaaGreatDoor
open Go Go.RowKit Go.Shelf

abbrev zP : Pl := (⟨0, 0, 0, 0, 0, 0⟩, false, false, false)
def cellsP : Pl → List Value | (b, p, q, r) => [I b.x, I b.y, I b.z, I b.a, I b.b, I b.c, .bool p, .bool q, .bool r]
theorem cellsP_len (p : Pl) : (cellsP p).length = 9 := by obtain ⟨b, p, q, r⟩ := p; rfl
theorem cellsP_one (p : Pl) : ∀ v ∈ cellsP p, v.oneCell' = true := by
  obtain ⟨b, p, q, r⟩ := p
  intro v hv
  simp only [cellsP, List.mem_cons, List.not_mem_nil, or_false] at hv
  rcases hv with rfl | rfl | rfl | rfl | rfl | rfl | rfl | rfl | rfl <;> rfl
/-- A place's value. -/
abbrev PV (p : Pl) : Value := P9 p.1 p.2.1 p.2.2.1 p.2.2.2
theorem cellsP_val (p : Pl) : (Value.agg (cellsP p).toArray) = PV p := by obtain ⟨b, p, q, r⟩ := p; rfl
def flatPl (ps : List Pl) : List Value := ps.flatMap cellsP
theorem flatPl_len : ∀ ps : List Pl, (flatPl ps).length = ps.length * 9
  | [] => rfl
  | p :: ps => by
    have := flatPl_len ps
    simp only [flatPl, List.flatMap_cons, List.length_append, cellsP_len, List.length_cons] at this ⊢
    omega
theorem flatPl_app (ps qs : List Pl) : flatPl (ps ++ qs) = flatPl ps ++ flatPl qs := by simp [flatPl]
theorem flatPl_get : ∀ (ps : List Pl) (k i : Nat), i < 9 → k < ps.length → (flatPl ps)[k * 9 + i]? = (cellsP (ps.getD k zP))[i]?
  | [], k, i, _, hk => by simp at hk
  | p :: ps, 0, i, hi, _ => by
    rw [flatPl, List.flatMap_cons, List.getElem?_append_left (by rw [cellsP_len]; omega)]
    simp
  | p :: ps, k + 1, i, hi, hk => by
    have := flatPl_get ps k i hi (by simpa using hk)
    rw [flatPl, List.flatMap_cons, List.getElem?_append_right (by rw [cellsP_len]; omega), cellsP_len]
    rw [show (k + 1) * 9 + i - 9 = k * 9 + i by omega]
    exact this
theorem flatPl_one {ps : List Pl} {v : Value} (h : v ∈ flatPl ps) : v.oneCell' = true := by
  obtain ⟨p, _, hp⟩ := List.mem_flatMap.1 h
  exact cellsP_one p v hp

/-- The slice v holds just ps, in a block of its own from number base on. -/
def Lp (W : World) (base : Nat) (v : Value) (ps : List Pl) : Prop := W.ownsRow base 32 9 v ps.length (flatPl ps)
theorem Lp.nil (W : World) (base : Nat) : Lp W base (.slice none 0 0) [] := World.ownsRow_nil _ _ _ _
theorem Lp.later {W W' : World} {base : Nat} {v : Value} {xs : List Pl} (h : Lp W base v xs) (hb : Below W.heap.size W W') : Lp W' base v xs := by
  obtain ⟨h1, h2⟩ := h
  refine ⟨h1, ?_⟩
  rcases h2 with h2 | ⟨g, cap, cur, e, hg, hh, r⟩
  · exact .inl h2
  · exact .inr ⟨g, cap, cur, e, hg, (hb.block g (Array.getElem?_eq_some_iff.1 hh).1).trans hh, r⟩
theorem Lp.weak {W : World} {base base' : Nat} {v : Value} {xs : List Pl} (h : Lp W base v xs) (hb : base' ≤ base) : Lp W base' v xs := by
  obtain ⟨h1, h2⟩ := h
  refine ⟨h1, ?_⟩
  rcases h2 with h2 | ⟨g, cap, cur, e, hg, r⟩
  · exact .inl h2
  · exact .inr ⟨g, cap, cur, e, Nat.le_trans hb hg, r⟩
/-- Behind what turned no cells, and not that list. -/
theorem Lp.kept {W W' : World} {base : Nat} {v : Value} {xs : List Pl} {row : Option Nat} (h : Lp W base v xs) (hg : W.grownBy W' row) (hr : ∀ r, row = some r → ∃ o : Obj, W.heap[r]? = some o ∧ o.isCells = false) : Lp W' base v xs := by
  obtain ⟨h1, h2⟩ := h
  refine ⟨h1, ?_⟩
  rcases h2 with h2 | ⟨g, cap, cur, e, hg', hh, r⟩
  · exact .inl h2
  · refine .inr ⟨g, cap, cur, e, hg', (hg.block g (Array.getElem?_eq_some_iff.1 hh).1 (fun e => ?_)).trans hh, r⟩
    obtain ⟨o, ho, hc⟩ := hr g e.symm
    rw [hh] at ho
    cases ho
    cases hc

/-- Block g holds, from cell n on, one place. -/
def At9 (W : World) (g n : Nat) (p : Pl) : Prop := ∃ cur, Blk W g 32 cur ∧ ∀ i, i < 9 → cur[n + i]? = (cellsP p)[i]?
theorem At9.later {W W' : World} {g n : Nat} {p : Pl} (h : At9 W g n p) (hb : Below W.heap.size W W') : At9 W' g n p := by
  obtain ⟨cur, h1, h2⟩ := h
  exact ⟨cur, h1.later hb, h2⟩
theorem At9.below {W W' : World} {g n m : Nat} {p : Pl} (h : At9 W g n p) (hb : Below m W W') (hg : g < m) : At9 W' g n p := by
  obtain ⟨cur, h1, h2⟩ := h
  exact ⟨cur, h1.below hb hg, h2⟩
theorem At9.lt {W : World} {g n : Nat} {p : Pl} (h : At9 W g n p) : g < W.heap.size := by
  obtain ⟨cur, h1, _⟩ := h
  exact h1.lt
theorem At9.cells {W : World} {g n : Nat} {b : Bx} {p q r : Bool} (h : At9 W g n (b, p, q, r)) :
    W.cell? ⟨g, n, none⟩ = some (I b.x) ∧ W.cell? ⟨g, n + 1, none⟩ = some (I b.y) ∧ W.cell? ⟨g, n + 2, none⟩ = some (I b.z) ∧
    W.cell? ⟨g, n + 3, none⟩ = some (I b.a) ∧ W.cell? ⟨g, n + 4, none⟩ = some (I b.b) ∧ W.cell? ⟨g, n + 5, none⟩ = some (I b.c) ∧
    W.cell? ⟨g, n + 6, none⟩ = some (.bool p) ∧ W.cell? ⟨g, n + 7, none⟩ = some (.bool q) ∧ W.cell? ⟨g, n + 8, none⟩ = some (.bool r) := by
  obtain ⟨cur, h1, h2⟩ := h
  exact ⟨(h1.cell n).trans (h2 0 (by omega)), (h1.cell _).trans (h2 1 (by omega)), (h1.cell _).trans (h2 2 (by omega)), (h1.cell _).trans (h2 3 (by omega)), (h1.cell _).trans (h2 4 (by omega)), (h1.cell _).trans (h2 5 (by omega)), (h1.cell _).trans (h2 6 (by omega)), (h1.cell _).trans (h2 7 (by omega)), (h1.cell _).trans (h2 8 (by omega))⟩
theorem At9.ext {W : World} {g n : Nat} {b : Bx} {p q r : Bool} (h : At9 W g n (b, p, q, r)) :
    (∀ X : Ext W, X.wd.cell? ⟨g, n, none⟩ = some (I b.x)) ∧ (∀ X : Ext W, X.wd.cell? ⟨g, n + 1, none⟩ = some (I b.y)) ∧ (∀ X : Ext W, X.wd.cell? ⟨g, n + 2, none⟩ = some (I b.z)) ∧
    (∀ X : Ext W, X.wd.cell? ⟨g, n + 3, none⟩ = some (I b.a)) ∧ (∀ X : Ext W, X.wd.cell? ⟨g, n + 4, none⟩ = some (I b.b)) ∧ (∀ X : Ext W, X.wd.cell? ⟨g, n + 5, none⟩ = some (I b.c)) ∧
    (∀ X : Ext W, X.wd.cell? ⟨g, n + 6, none⟩ = some (.bool p)) ∧ (∀ X : Ext W, X.wd.cell? ⟨g, n + 7, none⟩ = some (.bool q)) ∧ (∀ X : Ext W, X.wd.cell? ⟨g, n + 8, none⟩ = some (.bool r)) :=
  ⟨fun X => (h.later X.le).cells.1, fun X => (h.later X.le).cells.2.1, fun X => (h.later X.le).cells.2.2.1, fun X => (h.later X.le).cells.2.2.2.1, fun X => (h.later X.le).cells.2.2.2.2.1, fun X => (h.later X.le).cells.2.2.2.2.2.1, fun X => (h.later X.le).cells.2.2.2.2.2.2.1, fun X => (h.later X.le).cells.2.2.2.2.2.2.2.1, fun X => (h.later X.le).cells.2.2.2.2.2.2.2.2⟩
/-- What a walk asks of a list that it reads. -/
theorem Lp.view {W : World} {base : Nat} {v : Value} {ps : List Pl} (h : Lp W base v ps) :
    ∃ ao cap, v = .slice ao ps.length cap ∧ ∀ k : Nat, k < ps.length → ∃ g, ao = some ⟨g, 0, none⟩ ∧ At9 W g (k * 9) (ps.getD k zP) := by
  obtain ⟨h1, h2⟩ := h
  rcases h2 with ⟨rfl, hn⟩ | ⟨g, cap, cur, rfl, hg, hh, hc, hc2, hs, ht⟩
  · exact ⟨none, 0, by rw [hn], fun k hk => by omega⟩
  · refine ⟨_, cap, rfl, fun k hk => ⟨g, rfl, cur, hh, fun i hi => ?_⟩⟩
    have := congrArg (fun l => l[k * 9 + i]?) ht
    simp only [List.getElem?_take_of_lt (show k * 9 + i < ps.length * 9 by omega), Array.getElem?_toList] at this
    rw [this, flatPl_get ps k i hi hk]
theorem Lp.form {W : World} {base : Nat} {v : Value} {ps : List Pl} (h : Lp W base v ps) : ∃ ao cap, v = .slice ao ps.length cap ∧ Lp W base (.slice ao ps.length cap) ps := by
  obtain ⟨ao, cap, e, _⟩ := h.view
  exact ⟨ao, cap, e, e ▸ h⟩
theorem Lp.at {W : World} {base : Nat} {ao : Option Addr} {cap n : Nat} {ps : List Pl} (h : Lp W base (.slice ao n cap) ps) {k : Nat} (hk : k < ps.length) : ∃ g b p q r, ao = some ⟨g, 0, none⟩ ∧ ps.getD k zP = (b, p, q, r) ∧ At9 W g (k * 9) (b, p, q, r) := by
  obtain ⟨ao', cap', e, hv⟩ := h.view
  obtain ⟨g, hg, ha⟩ := hv k hk
  rw [Value.slice.injEq] at e
  rcases hu : ps.getD k zP with ⟨b, p, q, r⟩
  rw [hu] at ha
  exact ⟨g, b, p, q, r, e.1.trans hg, rfl, ha⟩
theorem Lp.len {W : World} {base n : Nat} {ao : Option Addr} {cap : Nat} {ps : List Pl} (h : Lp W base (.slice ao n cap) ps) : n = ps.length := by
  obtain ⟨ao', cap', e, _⟩ := h.view
  rw [Value.slice.injEq] at e
  exact e.2.1

theorem info_pl : (Tryz.prog.info? 32).map (fun i => (i.zero, i.size, i.bytes)) = some (some (P9 ⟨0, 0, 0, 0, 0, 0⟩ false false false), 9, 56) := by kernel_rfl

/-- 'list = append(list, p)', the list a call's own. -/
theorem wpList_appP {ops : Array Oper} {rest : List Oper} {o : Oper} {a : Act} {Q : Exit → Act → World → Prop} {W : World} {base : Nat} {v : Value} {xs : List Pl} {b : Bx} {p q r : Bool} (hgd : o.guard = none) (s u : Operand)
    (ho : o.op = .call { callee := .builtin .append, args := #[s, u], argTypes := #[34, 34] }) (hs : a.eval s = v) {B : Nat} (hx : a.eval u = .slice (some ⟨B, 0, none⟩) 1 1) (hBW : B = W.heap.size)
    (hown : Lp W base v xs) (hl : xs.length ≤ 100000) (hb : base ≤ W.heap.size)
    (h : ∀ ao n cap w', Lp w' base (.slice ao n cap) (xs ++ [(b, p, q, r)]) → Below base W w' → wpList Tryz.prog ops Q rest (a.put o.dst (.slice ao n cap)) w') : wpList Tryz.prog ops Q (o :: rest) a (W.alloc (.cells (C9 b p q r) 32)) := by
  subst hBW
  obtain ⟨i0, hi, hz0, hz1, hz2⟩ := info_parts info_pl
  refine wpList_append_own_at (w := W.alloc (.cells (C9 b p q r) 32)) hgd s u 34 ho base 32 i0 _ 9 56 Tryz.underlying34 hi hz0 hz1 hz2 rfl (by decide) v xs.length _ hs (hown.alloc _) ⟨W.heap.size, 0, none⟩ 1 1 (C9 b p q r).toList hx rfl ?_ ?_ ?_ ?_ ?_ ?_
  · intro j w hj
    have hB := (Blk.new W 32 (C9 b p q r)).cell j
    rw [show (⟨W.heap.size, 0, none⟩ : Addr).add j = ⟨W.heap.size, j, none⟩ by by_cases h : j = 0 <;> simp [Addr.add, h], hB]
    simpa using hj
  · exact cellsP_one (b, p, q, r)
  · unfold maxLen; omega
  · omega
  · simp; omega
  · intro v' w1 hown' hgrow _ hloc
    have hW : Lp w1 base v' (xs ++ [(b, p, q, r)]) := by
      unfold Lp
      rw [flatPl_app, List.length_append]
      exact hown'
    obtain ⟨ao, cap, rfl, _⟩ := hW.form
    exact h ao _ cap w1 hW ((Below.refl base W).grown ((World.grownBy_alloc W _ _).trans hgrow) hb (fun k hk => (World.ownsRow.lt hown k hk).1))

/-- 'own = append(own, c...)', own a call's own. -/
theorem wpList_catP {ops : Array Oper} {rest : List Oper} {o : Oper} {a : Act} {Q : Exit → Act → World → Prop} {W : World} {base base' : Nat} {v vx : Value} {xs ys : List Pl} (hgd : o.guard = none) (s u : Operand)
    (ho : o.op = .call { callee := .builtin .append, args := #[s, u], argTypes := #[34, 34] }) (hs : a.eval s = v) (hx : a.eval u = vx)
    (hown : Lp W base v xs) (hA : Lp W base' vx ys) (hl : xs.length + ys.length ≤ 100000) (hb : base ≤ W.heap.size)
    (h : ∀ ao n cap w', Lp w' base (.slice ao n cap) (xs ++ ys) → Below base W w' → wpList Tryz.prog ops Q rest (a.put o.dst (.slice ao n cap)) w') : wpList Tryz.prog ops Q (o :: rest) a W := by
  obtain ⟨i0, hi, hz0, hz1, hz2⟩ := info_parts info_pl
  obtain ⟨_, hA2⟩ := hA
  rcases hA2 with ⟨rfl, hn⟩ | ⟨g, cap, cur, rfl, hg, hh, hc, hc2, hsz, ht⟩
  · have e : ys = [] := List.length_eq_zero_iff.1 hn
    subst e
    obtain ⟨ao, cap, rfl, hL⟩ := hown.form
    have hA := h ao xs.length cap W
    rw [List.append_nil] at hA
    exact wpList_append_own_none hgd s u 34 ho base 32 i0 9 Tryz.underlying34 hi _ xs.length _ hs hown hx (hA hown (Below.refl _ _))
  · refine wpList_append_own (w := W) hgd s u 34 ho base 32 i0 _ 9 56 Tryz.underlying34 hi hz0 hz1 hz2 rfl (by decide) v xs.length _ hs hown ⟨g, 0, none⟩ ys.length cap (flatPl ys) hx (flatPl_len ys) ?_ ?_ ?_ ?_ ?_ ?_
    · intro j w hj
      have hjl : j < ys.length * 9 := by rw [← flatPl_len]; exact (List.getElem?_eq_some_iff.1 hj).1
      have hadd : (⟨g, 0, none⟩ : Addr).add j = ⟨g, j, none⟩ := by by_cases h : j = 0 <;> simp [Addr.add, h]
      have hB : Blk W g 32 cur := hh
      rw [hadd, hB.cell]
      have h1 := congrArg (fun l => l[j]?) ht
      simp only [List.getElem?_take_of_lt hjl, Array.getElem?_toList] at h1
      rw [h1, hj]
    · intro u hu
      exact flatPl_one hu
    · unfold maxLen; omega
    · omega
    · omega
    · intro v' w1 hown' hgrow _
      have hW : Lp w1 base v' (xs ++ ys) := by
        unfold Lp
        rw [flatPl_app, List.length_append]
        exact hown'
      obtain ⟨ao, cap, rfl, _⟩ := hW.form
      exact h ao _ cap w1 hW ((Below.refl base W).grown hgrow hb (fun k hk => (World.ownsRow.lt hown k hk).1))

/-! ### '==' between two places -/
def eqP (a b : Pl) : Bool := sameBx a.1 b.1 && eqB a.2.1 a.2.2.1 a.2.2.2 b.2.1 b.2.2.1 b.2.2.2
theorem eqP_iff {a b : Pl} : eqP a b = true ↔ a = b := by
  obtain ⟨x, p, q, r⟩ := a
  obtain ⟨y, p', q', r'⟩ := b
  simp only [eqP, eqB, Bool.and_eq_true, beq_iff_eq, sameBx_iff, Prod.mk.injEq]
theorem eqP_self (a : Pl) : eqP a a = true := eqP_iff.2 rfl
set_option maxRecDepth 100000 in
theorem eq_place (a b : Bx) (p q r p' q' r' : Bool) (w : World) : (Op.equalIn 10000 32 (P9 a p q r) (P9 b p' q' r')).run Tryz.prog w = .ok (eqP (a, p, q, r) (b, p', q', r')) w := by
  have e0 := eq_ints 9996 a.x a.y a.z b.x b.y b.z
  have e1 := eq_ints 9996 a.a a.b a.c b.a b.b b.c
  have e2 := eq_bools 9997 p q r p' q' r'
  have eb : ∀ w, (Op.equalIn 9999 30 (.agg #[I a.x, I a.y, I a.z, I a.a, I a.b, I a.c]) (.agg #[I b.x, I b.y, I b.z, I b.a, I b.b, I b.c])).run Tryz.prog w = .ok (sameBx a b) w := by
    intro w
    have es : sameBx a b = (eqN a.x a.y a.z b.x b.y b.z && eqN a.a a.b a.c b.a b.b b.c) := rfl
    rw [es, run_equalIn_struct (P := Tryz.prog) w 9998 30 _ _ (by kernel_rfl) (by kernel_rfl)]
    generalize eqN a.x a.y a.z b.x b.y b.z = b0 at *
    generalize eqN a.a a.b a.c b.a b.b b.c = b1 at *
    cases b0 <;> cases b1 <;> go_simp
  have ep : eqP (a, p, q, r) (b, p', q', r') = (sameBx a b && eqB p q r p' q' r') := rfl
  rw [ep, run_equalIn_struct (P := Tryz.prog) w 9999 32 _ _ (by kernel_rfl) (by kernel_rfl)]
  generalize sameBx a b = b0 at *
  generalize eqB p q r p' q' r' = b1 at *
  cases b0 <;> cases b1 <;> go_simp

end Go.Proofs.YtlahfffgmfjpaaaGreatDoor

/-
  What is known of runs: a map from places on; a place as its key.
-/
namespace Go.Proofs.YtlahfffgmfjpaaaGreatDoor
open Go Go.RowKit Go.Shelf Go.Maps

set_option maxRecDepth 100000 in
theorem rowPl : (32 : TypeId) < Tryz.prog.types.size := of_decide_eq_true (by kernel_rfl)
set_option maxRecDepth 100000 in
theorem widePl : (match Tryz.prog.underlying 32 with | some (.array _ _) | some (.struct _) => true | _ => false) = true := by kernel_rfl
set_option maxRecDepth 100000 in
theorem lawPl : Maps.Keyed Tryz.prog 32 := Maps.Keyed.of_law (deep_law_laid laidOutW (m := 4) (by omega) rowPl (by kernel_rfl) widePl)
set_option maxRecDepth 100000 in
theorem keyTypePl : Tryz.prog.keyType 32 = true := by kernel_rfl
def keyLitsPl : Pl → List Lit | (b, p, q, r) => [.int .i64 b.x, .int .i64 b.y, .int .i64 b.z, .int .i64 b.a, .int .i64 b.b, .int .i64 b.c, .bool p, .bool q, .bool r]
def keyPl (p : Pl) : Lit := .string (keyBytes (keyLitsPl p))
theorem may_wf {d0 d1 d2 : Int} (h : mayD d0 d1 d2) {b : Bx} {p q r : Bool} (hp : mayL d0 d1 d2 (b, p, q, r) = true) : (Lit.int .i64 b.x).wf = true ∧ (Lit.int .i64 b.y).wf = true ∧ (Lit.int .i64 b.z).wf = true ∧ (Lit.int .i64 b.a).wf = true ∧ (Lit.int .i64 b.b).wf = true ∧ (Lit.int .i64 b.c).wf = true := by
  obtain ⟨⟨b0, b1, b2⟩, _⟩ := mayL_iff.1 hp
  obtain ⟨⟨_, u0⟩, ⟨_, u1⟩, _, u2⟩ := h
  simp only [mayS] at b0 b1 b2
  refine ⟨?_, ?_, ?_, ?_, ?_, ?_⟩ <;> exact WalkArith.wf_i64 (by omega)
set_option maxRecDepth 100000 in
theorem key_pl {d0 d1 d2 : Int} (h : mayD d0 d1 d2) {b : Bx} {p q r : Bool} (hp : mayL d0 d1 d2 (b, p, q, r) = true) : keyOf Tryz.prog 32 (P9 b p q r) = some (keyPl (b, p, q, r)) := by
  obtain ⟨wx, wy, wz, wa, wb, wc⟩ := may_wf h hp
  obtain ⟨f0, f1, hu, t0, o0, n0, t1, o1, n1⟩ : ∃ f0 f1, Tryz.prog.underlying 32 = some (.struct #[f0, f1]) ∧ f0.type = 30 ∧ f0.offset = 0 ∧ (f0.name != "_") = true ∧ f1.type = 24 ∧ f1.offset = 6 ∧ (f1.name != "_") = true := ⟨_, _, rfl, rfl, rfl, rfl, rfl, rfl, rfl⟩
  obtain ⟨g0, g1, hu2, s0, q0, m0, s1, q1, m1⟩ : ∃ f0 f1, Tryz.prog.underlying 30 = some (.struct #[f0, f1]) ∧ f0.type = 22 ∧ f0.offset = 0 ∧ (f0.name != "_") = true ∧ f1.type = 22 ∧ f1.offset = 3 ∧ (f1.name != "_") = true := ⟨_, _, rfl, rfl, rfl, rfl, rfl, rfl, rfl⟩
  have c9 : Tryz.prog.cellsOf 32 = 9 := by kernel_rfl
  have c6 : Tryz.prog.cellsOf 30 = 6 := by kernel_rfl
  have c3 : Tryz.prog.cellsOf 22 = 3 := by kernel_rfl
  have c3' : Tryz.prog.cellsOf 24 = 3 := by kernel_rfl
  have c1 : Tryz.prog.cellsOf 3 = 1 := by kernel_rfl
  have c1' : Tryz.prog.cellsOf 4 = 1 := by kernel_rfl
  have hI : ∀ d (a b c : Int), (Lit.int .i64 a).wf = true → (Lit.int .i64 b).wf = true → (Lit.int .i64 c).wf = true → Tryz.prog.keyLits (d + 2) 22 [.int .i64 a, .int .i64 b, .int .i64 c] = some [.int .i64 a, .int .i64 b, .int .i64 c] := by
    intro d a b c ha hb hc
    simp [Program.keyLits, Tryz.underlying22, Tryz.underlying3, c3, c1, show List.range 3 = [0, 1, 2] from rfl, ha, hb, hc]
  have hB : ∀ d (a b c : Bool), Tryz.prog.keyLits (d + 2) 24 [.bool a, .bool b, .bool c] = some [.bool a, .bool b, .bool c] := by
    intro d a b c
    simp [Program.keyLits, Tryz.underlying24, Tryz.underlying4, c3', c1', show List.range 3 = [0, 1, 2] from rfl]
  have hX : ∀ d, Tryz.prog.keyLits (d + 3) 30 [.int .i64 b.x, .int .i64 b.y, .int .i64 b.z, .int .i64 b.a, .int .i64 b.b, .int .i64 b.c] = some [.int .i64 b.x, .int .i64 b.y, .int .i64 b.z, .int .i64 b.a, .int .i64 b.b, .int .i64 b.c] := by
    intro d
    have hall : (#[g0, g1] : Array Field).all (fun f => f.name != "_") = true := by
      rw [← Array.all_toList]
      simp only [List.all_cons, List.all_nil, m0, m1, Bool.and_self]
    unfold Program.keyLits
    rw [hu2]
    simp only [c6, hall, List.length_cons, List.length_nil, and_self, if_true]
    simp [s0, q0, s1, q1, c3, hI d b.x b.y b.z wx wy wz, hI d b.a b.b b.c wa wb wc]
  have hL : ∀ d, Tryz.prog.keyLits (d + 4) 32 [.int .i64 b.x, .int .i64 b.y, .int .i64 b.z, .int .i64 b.a, .int .i64 b.b, .int .i64 b.c, .bool p, .bool q, .bool r] = some (keyLitsPl (b, p, q, r)) := by
    intro d
    have hall : (#[f0, f1] : Array Field).all (fun f => f.name != "_") = true := by
      rw [← Array.all_toList]
      simp only [List.all_cons, List.all_nil, n0, n1, Bool.and_self]
    unfold Program.keyLits
    rw [hu]
    simp only [c9, hall, List.length_cons, List.length_nil, and_self, if_true]
    simp [t0, o0, t1, o1, c6, c3', hX d, hB (d + 1), keyLitsPl]
  obtain ⟨m, hm⟩ : ∃ m, Tryz.prog.types.size + 1 = m + 4 := ⟨Tryz.prog.types.size - 3, by have hr : (32 : Nat) < Tryz.prog.types.size := rowPl; omega⟩
  have hf : (P9 b p q r).formed Tryz.prog 32 = true := by simp [Value.formed, hu, c9]
  unfold keyOf
  rw [hu]
  simp only [keyTypePl, hf, Bool.and_self, if_true]
  rw [hm]
  have : (P9 b p q r).cells.toList = [.int .i64 b.x, .int .i64 b.y, .int .i64 b.z, .int .i64 b.a, .int .i64 b.b, .int .i64 b.c, .bool p, .bool q, .bool r] := rfl
  rw [this, hL]
  rfl
theorem keyPl_inj {d0 d1 d2 : Int} (h : mayD d0 d1 d2) {a b : Pl} (ha : mayL d0 d1 d2 a = true) (hb : mayL d0 d1 d2 b = true) (e : keyPl a = keyPl b) : a = b := by
  obtain ⟨⟨x, y, z, u, v, w⟩, p, q, r⟩ := a
  obtain ⟨⟨x', y', z', u', v', w'⟩, p', q', r'⟩ := b
  have := lawPl.inj (key_pl h ha) ((key_pl h hb).trans (by rw [e]))
  simp only [Value.agg.injEq, Array.mk.injEq, List.cons.injEq, Value.int.injEq, Value.bool.injEq] at this
  simp_all

/-- How a verdict reads. -/
def verdE : Value → Option (DataW Unit × List MemPlace)
  | .agg cs => match cs.toList with
    | [.bool x] => some (.agg [.lit (.bool x)], [])
    | _ => none
  | _ => none
theorem verdE_mk (x : Bool) : verdE (.agg #[.bool x]) = some (.agg [.lit (.bool x)], []) := rfl
theorem verdE_inv {v : Value} {z : DataW Unit × List MemPlace} (h : verdE v = some z) : ∃ x, v = .agg #[.bool x] ∧ z = (.agg [.lit (.bool x)], []) := by
  unfold verdE at h
  split at h
  · split at h
    · rename_i cs _ x hcs
      cases h
      exact ⟨x, by rw [show cs = #[.bool x] from by rw [← hcs]], rfl⟩
    · cases h
  · cases h
abbrev zV : DataW Unit := .agg [.lit (.bool false)]
/-- The map of a judge: what it knows is so. -/
def KnowsM (d0 d1 d2 : Int) (mw lw : List Nat) (D : DataW Unit) : Prop := ∀ r, mayL d0 d1 d2 r = true → Maps.has D (keyPl r) = true → D.atKey (keyPl r) zV = .agg [.lit (.bool (wellL d0 d1 d2 mw lw r))]
theorem knows_none (d0 d1 d2 : Int) (mw lw : List Nat) : KnowsM d0 d1 d2 mw lw (.map []) := fun r _ h => by simp [Maps.has] at h
theorem knows_put {d0 d1 d2 : Int} (hd : mayD d0 d1 d2) {mw lw : List Nat} {D : DataW Unit} (h : KnowsM d0 d1 d2 mw lw D) (hD : IsMap D) {r : Pl} (hr : mayL d0 d1 d2 r = true) : KnowsM d0 d1 d2 mw lw (D.put (keyPl r) (.agg [.lit (.bool (wellL d0 d1 d2 mw lw r))])) := by
  intro s hs hh
  obtain ⟨b, p, q, t⟩ := r
  by_cases e : s = (b, p, q, t)
  · rw [e, atKey_put_same hD (lawPl.key (key_pl hd hr))]
  · have hne : keyPl s ≠ keyPl (b, p, q, t) := fun k => e (keyPl_inj hd hs hr k)
    rw [has_put_other hne] at hh
    rw [atKey_put_other hne]
    exact h s hs hh
abbrev Jm (W : World) (g n : Nat) (D : DataW Unit) : Prop := W.ownsMap Tryz.prog 32 verdE g n D

/-- All but the map's block lies as it lay. -/
structure MapBut (g : Nat) (W W' : World) : Prop where
  os : W'.os = W.os
  tape : W'.tape = W.tape
  output : W'.output = W.output
  size : W.heap.size ≤ W'.heap.size
  block : ∀ k, k < W.heap.size → k ≠ g → W'.heap[k]? = W.heap[k]?
theorem MapBut.of_below {g : Nat} {W W' : World} (h : Below W.heap.size W W') : MapBut g W W' := ⟨h.os, h.tape, h.output, h.size, fun k hk _ => h.block k hk⟩
theorem MapBut.of_grown {g : Nat} {W W' : World} (h : W.grownBy W' (some g)) : MapBut g W W' := ⟨h.os, h.tape, h.output, h.size, fun k hk hne => h.block k hk (fun e => hne (by cases e; rfl))⟩
theorem MapBut.refl (g : Nat) (W : World) : MapBut g W W := ⟨rfl, rfl, rfl, Nat.le_refl _, fun _ _ _ => rfl⟩
theorem MapBut.trans {g : Nat} {A B C : World} (h : MapBut g A B) (k : MapBut g B C) : MapBut g A C :=
  ⟨k.os.trans h.os, k.tape.trans h.tape, k.output.trans h.output, Nat.le_trans h.size k.size, fun i hi hne => (k.block i (Nat.lt_of_lt_of_le hi h.size) hne).trans (h.block i hi hne)⟩
theorem MapBut.below {g n : Nat} {W W' : World} (h : MapBut g W W') (hn : n ≤ g) (hs : n ≤ W.heap.size) : Below n W W' := ⟨h.os, h.tape, h.output, h.size, fun k hk => h.block k (by omega) (by omega)⟩
theorem Jm.not_cells {W : World} {g n : Nat} {D : DataW Unit} (h : Jm W g n D) : ∃ o : Obj, W.heap[g]? = some o ∧ o.isCells = false := by
  obtain ⟨es, ck, hh, _⟩ := h
  exact ⟨_, hh, rfl⟩
theorem MapBut.blk {g : Nat} {W W' : World} (h : MapBut g W W') {n : Nat} {D : DataW Unit} (hm : Jm W g n D) {B : Nat} {t : TypeId} {vs : Array Value} (hB : Blk W B t vs) : Blk W' B t vs := by
  obtain ⟨o, ho, hc⟩ := Jm.not_cells hm
  exact (h.block B hB.lt (fun e => by subst e; rw [show W.heap[B]? = _ from hB] at ho; cases ho; cases hc)).trans hB
theorem MapBut.cell {g : Nat} {W W' : World} (h : MapBut g W W') {n : Nat} {D : DataW Unit} (hm : Jm W g n D) {a : Addr} {v : Value} (hv : W.cell? a = some v) : W'.cell? a = some v := by
  obtain ⟨o, ho, hc⟩ := cells_of_cell hv
  obtain ⟨o', ho', hc'⟩ := Jm.not_cells hm
  have hne : a.block ≠ g := fun e => by rw [e] at ho; rw [ho] at ho'; cases ho'; rw [hc] at hc'; cases hc'
  have hb := h.block a.block (Array.getElem?_eq_some_iff.1 ho).1 hne
  unfold World.cell? at hv ⊢
  rw [hb]
  exact hv
theorem MapBut.keepT {g : Nat} {W W' : World} (h : MapBut g W W') {n : Nat} {D : DataW Unit} (hm : Jm W g n D) (ok : TypeId → Bool) : W.heap.size ≤ W'.heap.size ∧ ∀ (k : Nat) (c : Array Value) (t : TypeId) (f : Nat × Nat), W.heap[k]? = some (.cells c t f) → ok t = true → W'.heap[k]? = some (.cells c t f) :=
  ⟨h.size, fun k c t f hk _ => by
    obtain ⟨o, ho, hc⟩ := Jm.not_cells hm
    exact (h.block k (Array.getElem?_eq_some_iff.1 hk).1 (fun e => by subst e; rw [hk] at ho; cases ho; cases hc)).trans hk⟩

end Go.Proofs.YtlahfffgmfjpaaaGreatDoor

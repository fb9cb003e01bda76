/-
  Lists of what is asked for, in memory that a call made: read, lengthened, made; the law of such keys in a map.
-/
import Derived.Test.YtanhhlekbdhfmaaDoorWants
import Derived.Maps.OwnSet
import Derived.Maps.Views
import Derived.DeepKeys4
import Derived.Maps.AppendAt
namespace Go.Proofs.YtanhhlekbdhfmaaDoor
open Go Go.RowKit Go.Shelf

def flatW (ws : List Wt) : List Value := ws.flatMap cellsW
theorem flatW_len : ∀ ws : List Wt, (flatW ws).length = ws.length * 7
  | [] => rfl
  | w :: ws => by
    have := flatW_len ws
    simp only [flatW, List.flatMap_cons, List.length_append, cellsW_len, List.length_cons] at this ⊢
    omega
theorem flatW_snoc (ws : List Wt) (w : Wt) : flatW (ws ++ [w]) = flatW ws ++ cellsW w := by simp [flatW]
theorem flatW_get : ∀ (ws : List Wt) (k i : Nat), i < 7 → k < ws.length → (flatW ws)[k * 7 + i]? = (cellsW (ws.getD k default))[i]?
  | [], k, i, _, hk => by simp at hk
  | w :: ws, 0, i, hi, _ => by
    rw [flatW, List.flatMap_cons, List.getElem?_append_left (by rw [cellsW_len]; omega)]
    simp
  | w :: ws, k + 1, i, hi, hk => by
    have := flatW_get ws k i hi (by simpa using hk)
    rw [flatW, List.flatMap_cons, List.getElem?_append_right (by rw [cellsW_len]; omega), cellsW_len]
    rw [show (k + 1) * 7 + i - 7 = k * 7 + i by omega]
    exact this

/-- The slice v holds just ws, in a block of its own from number base on. -/
def Wl (W : World) (base : Nat) (v : Value) (ws : List Wt) : Prop := W.ownsRow base 29 7 v ws.length (flatW ws)

theorem Wl.nil (W : World) (base : Nat) : Wl W base (.slice none 0 0) [] := World.ownsRow_nil _ _ _ _
theorem Wl.later {W W' : World} {base : Nat} {v : Value} {xs : List Wt} (h : Wl W base v xs) (hb : Below W.heap.size W W') : Wl W' base v xs := by
  obtain ⟨h1, h2⟩ := h
  refine ⟨h1, ?_⟩
  rcases h2 with h2 | ⟨g, cap, cur, e, hg, hh, r⟩
  · exact .inl h2
  · exact .inr ⟨g, cap, cur, e, hg, (hb.block g (Array.getElem?_eq_some_iff.1 hh).1).trans hh, r⟩
theorem Wl.weak {W : World} {base base' : Nat} {v : Value} {xs : List Wt} (h : Wl W base v xs) (hb : base' ≤ base) : Wl W base' v xs := by
  obtain ⟨h1, h2⟩ := h
  refine ⟨h1, ?_⟩
  rcases h2 with h2 | ⟨g, cap, cur, e, hg, r⟩
  · exact .inl h2
  · exact .inr ⟨g, cap, cur, e, Nat.le_trans hb hg, r⟩

/-- Block g holds, from cell n on, one that is asked for. -/
def At7 (W : World) (g n : Nat) (w : Wt) : Prop := ∃ cur, Blk W g 29 cur ∧ ∀ i, i < 7 → cur[n + i]? = (cellsW w)[i]?
theorem At7.later {W W' : World} {g n : Nat} {w : Wt} (h : At7 W g n w) (hb : Below W.heap.size W W') : At7 W' g n w := by
  obtain ⟨cur, h1, h2⟩ := h
  exact ⟨cur, h1.later hb, h2⟩
theorem At7.cells {W : World} {g n : Nat} {x y z : Int} {p q r t : Bool} (h : At7 W g n (x, y, z, p, q, r, t)) :
    W.cell? ⟨g, n, none⟩ = some (.int .i64 x) ∧ W.cell? ⟨g, n + 1, none⟩ = some (.int .i64 y) ∧ W.cell? ⟨g, n + 2, none⟩ = some (.int .i64 z) ∧
    W.cell? ⟨g, n + 3, none⟩ = some (.bool p) ∧ W.cell? ⟨g, n + 4, none⟩ = some (.bool q) ∧ W.cell? ⟨g, n + 5, none⟩ = some (.bool r) ∧ W.cell? ⟨g, n + 6, none⟩ = some (.bool t) := by
  obtain ⟨cur, h1, h2⟩ := h
  exact ⟨(h1.cell n).trans (h2 0 (by omega)), (h1.cell _).trans (h2 1 (by omega)), (h1.cell _).trans (h2 2 (by omega)), (h1.cell _).trans (h2 3 (by omega)), (h1.cell _).trans (h2 4 (by omega)), (h1.cell _).trans (h2 5 (by omega)), (h1.cell _).trans (h2 6 (by omega))⟩
theorem At7.lt {W : World} {g n : Nat} {w : Wt} (h : At7 W g n w) : g < W.heap.size := by
  obtain ⟨cur, h1, _⟩ := h
  exact h1.lt

/-- What a walk asks of a list that it reads. -/
theorem Wl.view {W : World} {base : Nat} {v : Value} {ws : List Wt} (h : Wl W base v ws) :
    ∃ ao cap, v = .slice ao ws.length cap ∧ ∀ k : Nat, k < ws.length → ∃ g, ao = some ⟨g, 0, none⟩ ∧ At7 W g (k * 7) (ws.getD k default) := by
  obtain ⟨h1, h2⟩ := h
  rcases h2 with ⟨rfl, hn⟩ | ⟨g, cap, cur, rfl, hg, hh, hc, hc2, hs, ht⟩
  · exact ⟨none, 0, by rw [hn], fun k hk => by omega⟩
  · refine ⟨_, cap, rfl, fun k hk => ⟨g, rfl, cur, hh, fun i hi => ?_⟩⟩
    have := congrArg (fun l => l[k * 7 + i]?) ht
    simp only [List.getElem?_take_of_lt (show k * 7 + i < ws.length * 7 by omega), Array.getElem?_toList] at this
    rw [this, flatW_get ws k i hi hk]

theorem info_w : (Tryd.prog.info? 29).map (fun i => (i.zero, i.size, i.bytes)) = some (some (V7 0 0 0 false false false false), 7, 32) := by kernel_rfl

abbrev cells7 (x y z : Int) (p q r t : Bool) : Array Value := #[.int .i64 x, .int .i64 y, .int .i64 z, .bool p, .bool q, .bool r, .bool t]

/-- 'list = append(list, w)', the list a call's own. -/
theorem wpList_appW {ops : Array Oper} {rest : List Oper} {o : Oper} {a : Act} {Q : Exit → Act → World → Prop} {W : World} {base : Nat} {v : Value} {xs : List Wt} {x y z : Int} {p q r t : Bool} (hgd : o.guard = none) (s u : Operand)
    (ho : o.op = .call { callee := .builtin .append, args := #[s, u], argTypes := #[22, 22] }) (hs : a.eval s = v) (hx : a.eval u = .slice (some ⟨W.heap.size, 0, none⟩) 1 1)
    (hown : Wl W base v xs) (hl : xs.length ≤ 100000) (hb : base ≤ W.heap.size)
    (h : ∀ v' w', Wl w' base v' (xs ++ [(x, y, z, p, q, r, t)]) → W.grownBy w' v.ownBlock → (v'.ownBlock = v.ownBlock ∨ ∃ g, v'.ownBlock = some g ∧ W.heap.size < g) → wpList Tryd.prog ops Q rest (a.put o.dst v') w') : wpList Tryd.prog ops Q (o :: rest) a (W.alloc (.cells (cells7 x y z p q r t) 29)) := by
  obtain ⟨i0, hi, hz0, hz1, hz2⟩ := info_parts info_w
  refine wpList_append_own_at (w := W.alloc (.cells (cells7 x y z p q r t) 29)) hgd s u 22 ho base 29 i0 _ 7 32 Tryd.underlying22 hi hz0 hz1 hz2 rfl (by decide) v xs.length _ hs (hown.alloc _) ⟨W.heap.size, 0, none⟩ 1 1 (cells7 x y z p q r t).toList hx rfl ?_ ?_ ?_ ?_ ?_ ?_
  · intro j w hj
    have hB := (Blk.new W 29 (cells7 x y z p q r t)).cell j
    rw [show (⟨W.heap.size, 0, none⟩ : Addr).add j = ⟨W.heap.size, j, none⟩ by by_cases h : j = 0 <;> simp [Addr.add, h], hB]
    simpa using hj
  · intro w hw; simp at hw; rcases hw with rfl | rfl | rfl | rfl | rfl | rfl | rfl <;> rfl
  · unfold maxLen; omega
  · omega
  · simp; omega
  · intro v' w1 hown' hgrow _ hloc
    have hW : Wl w1 base v' (xs ++ [(x, y, z, p, q, r, t)]) := by
      unfold Wl
      rw [flatW_snoc, List.length_append]
      exact hown'
    refine h v' w1 hW ?_ ?_
    · exact (World.grownBy_alloc W _ _).trans hgrow
    · exact hloc.imp id fun e => ⟨_, e, by simp⟩

/-- 'make([]api.Wants, 0, n)'. -/
theorem wpList_mkWl {ops : Array Oper} {rest : List Oper} {o : Oper} {a : Act} {Q : Exit → Act → World → Prop} {W : World} {base : Nat} (hgd : o.guard = none) (l c : Operand) (ho : o.op = Op.makeSlice 22 l c) (n : Int)
    (hl : a.eval l = .int .i64 0) (hc : a.eval c = .int .i64 n) (h0 : 0 ≤ n) (h1 : n ≤ 100000) (hb : base ≤ W.heap.size)
    (h : ∀ v' w', Wl w' base v' [] → Below base W w' → v'.ownBlock = some W.heap.size → wpList Tryd.prog ops Q rest (a.put o.dst v') w') : wpList Tryd.prog ops Q (o :: rest) a W := by
  obtain ⟨i0, hi, hz0, hz1, hz2⟩ := info_parts info_w
  refine wpList_make_own W hgd l c 22 ho base 29 i0 _ 7 Tryd.underlying22 hi hz0 hz1 .i64 .i64 n n.toNat hl hc (by omega) (by rw [hz2]; omega) (by unfold maxLen; omega) hb ?_
  intro w' h1 h2
  exact h _ w' h1 ((Below.refl base W).grown h2 hb (fun k hk => by cases hk)) rfl

/-- '[]api.Wants{w}'. -/
theorem Wl.one (W : World) (base : Nat) (hb : base ≤ W.heap.size) (x y z : Int) (p q r t : Bool) : Wl (W.alloc (.cells (cells7 x y z p q r t) 29)) base (.slice (some ⟨W.heap.size, 0, none⟩) 1 1) [(x, y, z, p, q, r, t)] :=
  ⟨rfl, .inr ⟨W.heap.size, 1, cells7 x y z p q r t, rfl, hb, Blk.new W _ _, Nat.le_refl _, by unfold maxLen; omega, rfl, rfl⟩⟩

/-- One that is asked for, as a key of a map. -/
theorem rowW : (29 : TypeId) < Tryd.prog.types.size := of_decide_eq_true (by kernel_rfl)
theorem laidOutW : laidOutB Tryd.prog = true := by kernel_rfl
theorem wideW : (match Tryd.prog.underlying 29 with | some (.array _ _) | some (.struct _) => true | _ => false) = true := by kernel_rfl
theorem lawW : Maps.Keyed Tryd.prog 29 := Maps.Keyed.of_law (deep_law_laid laidOutW (m := 3) (by omega) rowW (by kernel_rfl) wideW)
theorem keyTypeW : Tryd.prog.keyType 29 = true := by kernel_rfl
def keyLitsW : Wt → List Lit | (x, y, z, p, q, r, t) => [.int .i64 x, .int .i64 y, .int .i64 z, .bool p, .bool q, .bool r, .bool t]
def keyW (w : Wt) : Lit := .string (keyBytes (keyLitsW w))
theorem wf_may {x : Int} (h : 1 ≤ x ∧ x ≤ 16) : (Lit.int .i64 x).wf = true := WalkArith.wf_i64 (by omega)
theorem key_w {x y z : Int} {p q r t : Bool} (h : mayT (x, y, z, p, q, r, t)) : keyOf Tryd.prog 29 (V7 x y z p q r t) = some (keyW (x, y, z, p, q, r, t)) := by
  simp only [mayT] at h
  have wx := wf_may (x := x) (by omega)
  have wy := wf_may (x := y) (by omega)
  have wz := wf_may (x := z) (by omega)
  obtain ⟨f0, f1, f2, hu, t0, o0, n0, t1, o1, n1, t2, o2, n2⟩ : ∃ f0 f1 f2, Tryd.prog.underlying 29 = some (.struct #[f0, f1, f2]) ∧ f0.type = 26 ∧ f0.offset = 0 ∧ (f0.name != "_") = true ∧ f1.type = 27 ∧ f1.offset = 3 ∧ (f1.name != "_") = true ∧ f2.type = 4 ∧ f2.offset = 6 ∧ (f2.name != "_") = true := ⟨_, _, _, rfl, rfl, rfl, rfl, rfl, rfl, rfl, rfl, rfl, rfl⟩
  have c7 : Tryd.prog.cellsOf 29 = 7 := by kernel_rfl
  have c3 : Tryd.prog.cellsOf 26 = 3 := by kernel_rfl
  have c3' : Tryd.prog.cellsOf 27 = 3 := by kernel_rfl
  have c1 : Tryd.prog.cellsOf 3 = 1 := by kernel_rfl
  have c1' : Tryd.prog.cellsOf 4 = 1 := by kernel_rfl
  have hI : ∀ d (a b c : Int), (Lit.int .i64 a).wf = true → (Lit.int .i64 b).wf = true → (Lit.int .i64 c).wf = true → Tryd.prog.keyLits (d + 2) 26 [.int .i64 a, .int .i64 b, .int .i64 c] = some [.int .i64 a, .int .i64 b, .int .i64 c] := by
    intro d a b c ha hb hc
    simp [Program.keyLits, Tryd.underlying26, Tryd.underlying3, c3, c1, show List.range 3 = [0, 1, 2] from rfl, ha, hb, hc]
  have hB : ∀ d (a b c : Bool), Tryd.prog.keyLits (d + 2) 27 [.bool a, .bool b, .bool c] = some [.bool a, .bool b, .bool c] := by
    intro d a b c
    simp [Program.keyLits, Tryd.underlying27, Tryd.underlying4, c3', c1', show List.range 3 = [0, 1, 2] from rfl]
  have hT : ∀ d (a : Bool), Tryd.prog.keyLits (d + 1) 4 [.bool a] = some [.bool a] := by
    intro d a
    simp [Program.keyLits, Tryd.underlying4]
  have hL : ∀ d, Tryd.prog.keyLits (d + 3) 29 [.int .i64 x, .int .i64 y, .int .i64 z, .bool p, .bool q, .bool r, .bool t] = some (keyLitsW (x, y, z, p, q, r, t)) := by
    intro d
    have hall : (#[f0, f1, f2] : Array Field).all (fun f => f.name != "_") = true := by
      rw [← Array.all_toList]
      simp only [List.all_cons, List.all_nil, n0, n1, n2, Bool.and_self]
    unfold Program.keyLits
    rw [hu]
    simp only [c7, hall, List.length_cons, List.length_nil, and_self, if_true]
    simp [t0, o0, t1, o1, t2, o2, c3, c3', c1', hI d x y z wx wy wz, hB, hT, keyLitsW]
  obtain ⟨m, hm⟩ : ∃ m, Tryd.prog.types.size + 1 = m + 3 := ⟨Tryd.prog.types.size - 2, by have hr : (29 : Nat) < Tryd.prog.types.size := rowW; omega⟩
  have hf : (V7 x y z p q r t).formed Tryd.prog 29 = true := by simp [Value.formed, hu, c7]
  unfold keyOf
  rw [hu]
  simp only [keyTypeW, hf, Bool.and_self, if_true]
  rw [hm]
  have : (V7 x y z p q r t).cells.toList = [.int .i64 x, .int .i64 y, .int .i64 z, .bool p, .bool q, .bool r, .bool t] := rfl
  rw [this, hL]
  rfl
theorem keyW_inj {a b : Wt} (ha : mayT a) (hb : mayT b) (h : keyW a = keyW b) : a = b := by
  obtain ⟨x, y, z, p, q, r, t⟩ := a
  obtain ⟨x', y', z', p', q', r', t'⟩ := b
  have := lawW.inj (key_w ha) ((key_w hb).trans (by rw [h]))
  simp only [Value.agg.injEq, Array.mk.injEq, List.cons.injEq, Value.int.injEq, Value.bool.injEq] at this
  simp_all
theorem zeroI (w : World) : (zeroValue 3).run Tryd.prog w = .ok (.int .i64 0) w := by kernel_rfl

end Go.Proofs.YtanhhlekbdhfmaaDoor

/-
  wire.rising: the first cables that are handed out, at most so many, in rising order, in new memory.
-/
import Derived.Test.YtbedhpooeabehaaDoorPart10
import Derived.Test.YtbedhpooeabehaaDoorPart9
import Derived.Sort.LoopGhostIn
import Derived.Test.YtbedhpooeabehaaDoorPart1
import Derived.Test.YtbedhpooeabehaaDoorProg
import Derived.ChangeKeysEq
import Derived.KernelRfl
namespace Go.Proofs.YtbedhpooeabehaaDoor
open Go Go.RowKit Go.Shelf

attribute [local go_sem] Oper.semAt_some ext_const

/-- 'list = append(list, y)' within a fence, the list a call's own and not nil. -/
theorem wpListIn_app {F : Fence} {n : Nat} {ops : Array Oper} {rest : List Oper} {o : Oper} {a : Act} {Q : Exit → Act → World → Prop} {W : World} {base : Nat} {v : Value} {xs : List Int} {y : Int} (hgd : o.guard = none) (s x : Operand)
    (ho : o.op = .call { callee := .builtin .append, args := #[s, x], argTypes := #[49, 49] }) (hs : a.eval s = v) (hx : a.eval x = .slice (some ⟨W.heap.size, 0, none⟩) 1 1)
    (hown : Lst W base v xs) (hl : xs.length ≤ 100000) (hb : base ≤ W.heap.size)
    (h : ∀ g cap w', Lst w' base (.slice (some ⟨g, 0, none⟩) (xs.length + 1) cap) (xs ++ [y]) → Below base W w' → W.grownBy w' v.ownBlock → wpListIn F n Tryd.prog ops Q rest (a.put o.dst (.slice (some ⟨g, 0, none⟩) (xs.length + 1) cap)) w') : wpListIn F n Tryd.prog ops Q (o :: rest) a (W.alloc (.cells #[.int .i64 y] 3)) := by
  obtain ⟨i0, hi, hz0, hz1, hz2⟩ := info_parts info_int
  refine wpListIn_append_own (w := W.alloc (.cells #[.int .i64 y] 3)) hgd s x 49 ho base 3 i0 (.int .i64 0) 1 8 Tryd.underlying49 hi hz0 hz1 hz2 rfl (by decide) v xs.length _ hs (hown.alloc _) ⟨W.heap.size, 0, none⟩ 1 1 [.int .i64 y] hx rfl ?_ ?_ ?_ ?_ ?_ ?_
  · intro j u hj
    match j, hj with
    | 0, hj => simp at hj; subst hj; simp [Addr.add]
  · intro u hu; simp at hu; subst hu; rfl
  · unfold maxLen; omega
  · omega
  · simp; omega
  · intro v' w1 hown' hgrow hnil
    have hne : v' ≠ .slice none 0 0 := fun e => by have := (hnil.1 e).2; omega
    have hL' : Lst w1 base v' (xs ++ [y]) := by
      unfold Lst
      rw [List.map_append, List.length_append]
      exact hown'
    have hlen : (xs ++ [y]).length = xs.length + 1 := by simp
    rcases hL'.2 with ⟨h0, _⟩ | ⟨g, cap, cur, rfl, _⟩
    · exact absurd h0 hne
    · rw [hlen] at hL' ⊢
      refine h g cap w1 hL' ?_ ?_
      · exact ((Below.refl base W).alloc hb _).grown hgrow (by simp; omega) (fun k hk => (hown.lt k hk).1)
      · exact ⟨hgrow.os, hgrow.tape, hgrow.output, by have := hgrow.size; simp at this; omega, fun k hk hne => (hgrow.block k (by simp; omega) hne).trans (Below.heap_alloc W _ k hk)⟩

/-- 'make([]int, 0, n)' within a fence. -/
theorem wpListIn_mk {F : Fence} {m : Nat} {ops : Array Oper} {rest : List Oper} {o : Oper} {a : Act} {Q : Exit → Act → World → Prop} {W : World} {base : Nat} (hgd : o.guard = none) (l c : Operand) (ho : o.op = Op.makeSlice 49 l c) (n : Int)
    (hl : a.eval l = .int .i64 0) (hc : a.eval c = .int .i64 n) (h0 : 0 ≤ n) (h1 : n ≤ 100000) (hb : base ≤ W.heap.size)
    (h : ∀ cap w', Lst w' base (.slice (some ⟨W.heap.size, 0, none⟩) 0 cap) [] → Below W.heap.size W w' → wpListIn F m Tryd.prog ops Q rest (a.put o.dst (.slice (some ⟨W.heap.size, 0, none⟩) 0 cap)) w') : wpListIn F m Tryd.prog ops Q (o :: rest) a W := by
  obtain ⟨i0, hi, hz0, hz1, hz2⟩ := info_parts info_int
  refine wpListIn_make_own W hgd l c 49 ho base 3 i0 (.int .i64 0) 1 Tryd.underlying49 hi hz0 hz1 .i64 .i64 n n.toNat hl hc (by omega) (by rw [hz2]; omega) (by unfold maxLen; omega) hb ?_
  intro w' h1 h2
  exact h _ w' h1 ((Below.refl _ W).grown h2 (Nat.le_refl _) (fun k hk => by cases hk))

/-- A list stays where only other blocks turn. -/
theorem Lst.kept {W W' : World} {base : Nat} {v : Value} {xs : List Int} {row : Option Nat} (h : Lst W base v xs) (hg : W.grownBy W' row) (hr : ∀ r, row = some r → ∃ o : Obj, W.heap[r]? = some o ∧ o.isCells = false) : Lst W' base v xs := by
  obtain ⟨h1, h2⟩ := h
  refine ⟨h1, ?_⟩
  rcases h2 with h2 | ⟨g, cap, cur, e, hgb, hh, r⟩
  · exact .inl h2
  · exact .inr ⟨g, cap, cur, e, hgb, (grownBy_keeps_cells hg hr hh rfl).trans hh, r⟩
/-- .. or a cell of another type's block. -/
theorem Lst.ne {W : World} {base B g n cap : Nat} {t : TypeId} {vs : Array Value} {xs : List Int} (h : Lst W base (.slice (some ⟨g, 0, none⟩) n cap) xs) (hB : Blk W B t vs) (ht : t ≠ 3) : g ≠ B := by
  intro e
  subst e
  rcases h.2 with ⟨h0, _⟩ | ⟨g', cap', cur, e, _, hh, _⟩
  · cases h0
  · cases e
    rw [show W.heap[g]? = _ from hB] at hh
    cases hh
    exact ht rfl
theorem Lst.lt {W : World} {base g n cap : Nat} {xs : List Int} (h : Lst W base (.slice (some ⟨g, 0, none⟩) n cap) xs) : g < W.heap.size ∧ ∃ cur, W.heap[g]? = some (.cells cur 3 (0, 0)) := by
  rcases h.2 with ⟨h0, _⟩ | ⟨g', cap', cur, e, _, hh, _⟩
  · cases h0
  · cases e
    exact ⟨(Array.getElem?_eq_some_iff.1 hh).1, cur, hh⟩
theorem Lst.set {W : World} {base B g n cap : Nat} {xs : List Int} (h : Lst W base (.slice (some ⟨g, 0, none⟩) n cap) xs) (hne : g ≠ B) (i : Nat) (u : Value) : Lst (W.setCell ⟨B, i, none⟩ u) base (.slice (some ⟨g, 0, none⟩) n cap) xs := by
  obtain ⟨h1, h2⟩ := h
  refine ⟨h1, ?_⟩
  rcases h2 with h2 | ⟨g', cap', cur, e, hgb, hh, r⟩
  · exact .inl h2
  · cases e
    exact .inr ⟨g, cap, cur, rfl, hgb, (Below.heap_setCell W ⟨B, i, none⟩ u g hne).trans hh, r⟩
/-- What a step that turns a list's own row leaves. -/
theorem Blk.grown {W W' : World} {B g : Nat} {t : TypeId} {vs : Array Value} (h : Blk W B t vs) (hg : W.grownBy W' (some g)) (hne : g ≠ B) : Blk W' B t vs :=
  (hg.block B h.lt (fun e => hne (by cases e; rfl))).trans h
theorem keeps_grown {W W' : World} {base g n cap : Nat} {xs : List Int} (h : Lst W base (.slice (some ⟨g, 0, none⟩) n cap) xs) (hg : W.grownBy W' (some g)) : KeepsOthers W W' :=
  ⟨hg.size, fun k o hk ho => by
    obtain ⟨_, cur, hh⟩ := h.lt
    refine (hg.block k (Array.getElem?_eq_some_iff.1 hk).1 (fun e => ?_)).trans hk
    cases e
    rw [hh] at hk
    cases hk
    cases ho⟩

/-- What the loop keeps. -/
structure Gath (w : World) (mo Bl : Nat) (pre : List Int) (W : World) : Prop where
  row : ∃ g cap, Blk W Bl 49 #[.slice (some ⟨g, 0, none⟩) pre.length cap] ∧ Lst W (w.heap.size + 1) (.slice (some ⟨g, 0, none⟩) pre.length cap) pre
  most : Blk W w.heap.size 3 #[I mo]
  below : Below w.heap.size w W
  le : pre.length ≤ mo
theorem gath_own (w : World) (mo Bl B : Nat) (hB : w.heap.size ≤ B) : OwnFrom B (Gath w mo Bl) := fun s A A' row hs hg hr => by
  obtain ⟨⟨g, cap, hb, hl⟩, hm, hbe, hle⟩ := hs
  have hr' : ∀ r, row = some r → ∃ o : Obj, A.heap[r]? = some o ∧ o.isCells = false := fun r e => (hr r e).2
  exact ⟨⟨g, cap, hb.kept hg hr', hl.kept hg hr'⟩, hm.kept hg hr', hbe.grown hg hbe.size (fun k e => Nat.le_trans hB (hr k e).1), hle⟩
/-- .. where it is left ahead of its end. -/
def GathX (w : World) (mo Bl : Nat) (c : Code) (pre : List Int) (W : World) : Prop := c = .exit 0 ∧ ∃ ini x, pre = ini ++ [x] ∧ ini.length = mo ∧ Gath w mo Bl ini W
theorem gathX_own (w : World) (mo Bl B : Nat) (hB : w.heap.size ≤ B) (c : Code) : OwnFrom B (GathX w mo Bl c) := fun s A A' row hs hg hr => by
  obtain ⟨hc, ini, x, he, hl, hG⟩ := hs
  exact ⟨hc, ini, x, he, hl, gath_own w mo Bl B hB ini A A' row hG hg hr⟩

set_option maxRecDepth 100000 in
set_option maxHeartbeats 2000000 in
theorem rising_calls {d0 d1 d2 m : Int} (hm : mayD d0 d1 d2) (hn : 0 ≤ m ∧ m < d0 * d1 * d2) (k : Fin 3) (mo : Nat) (hmo : mo ≤ 16) (Bd Ba Bm : Nat) (w : World)
    (hd : Bd < w.heap.size) (ha : Ba < w.heap.size) (hmm : Bm < w.heap.size) (bd : Blk w Bd 26 #[I d0, I d1, I d2]) (ba : Blk w Ba 3 #[I (axI k)]) (bm : Blk w Bm 3 #[I m]) :
    Calls Tryd.prog 67 #[.func (.func 73) #[] #[.pointer (some ⟨Bd, 0, none⟩), .pointer (some ⟨Ba, 0, none⟩), .pointer (some ⟨Bm, 0, none⟩)], I mo] w fun e W' =>
      ∃ v, e = .returned v ∧ Lst W' w.heap.size v (((outW d0 d1 d2 m k).take mo).mergeSort fun x y => decide (x ≤ y)) ∧ Below w.heap.size w W' := by
  refine (callsIn_wide (n := 3)).1 ?_
  refine callsIn_of_wp_marks Tryd.func67 rfl trivial ?_ rfl
  simp only [Tryd.ntmps67, List.size_toArray, List.length_cons, List.length_nil, Nat.reduceAdd, Nat.reduceSub, Array.replicate_succ, Array.replicate_zero, List.push_toArray, List.append_toArray, List.nil_append, List.cons_append]
  gi_wp2_with (gi_at_make; refine wpListIn_mk (base := (w.alloc (.cells #[I mo] 3)).heap.size) rfl _ _ rfl (mo : Int) rfl rfl (by omega) (by omega) (Nat.le_refl _) ?_; intro cap1 w1 hL1 hT1)
  have hz : w.heap.size + 1 < w1.heap.size := by have := hL1.lt.1; simpa using this
  have hB1 : Below w.heap.size w w1 := then_below ((Below.refl _ w).alloc (Nat.le_refl _) _) hT1
  have bq : Blk w1 w.heap.size 3 #[I mo] := (Blk.new w 3 #[I mo]).later hT1
  have bl := Blk.new w1 49 #[.slice (some ⟨w.heap.size + 1, 0, none⟩) 0 cap1]
  have hG0 : Gath w mo w1.heap.size [] (w1.alloc (.cells #[.slice (some ⟨w.heap.size + 1, 0, none⟩) 0 cap1] 49)) :=
    ⟨⟨w.heap.size + 1, cap1, bl, by have := hL1.alloc (.cells #[.slice (some ⟨w.heap.size + 1, 0, none⟩) 0 cap1] 49); simp at this; exact this⟩, bq.alloc _, then_alloc hB1 _, Nat.zero_le _⟩
  have hBW := hG0.below
  generalize w1.heap.size = Bl at *
  have hBl : Bl < (w1.alloc (.cells #[.slice (some ⟨w.heap.size + 1, 0, none⟩) 0 cap1] 49)).heap.size := bl.lt
  generalize w1.alloc (.cells #[.slice (some ⟨w.heap.size + 1, 0, none⟩) 0 cap1] 49) = W0 at *
  clear hT1 hL1 hB1 bq bl
  refine wpIn_rangeFunc_ownF rfl (by omega) (gf := 73) (lb := #[.pointer (some ⟨Bd, 0, none⟩), .pointer (some ⟨Ba, 0, none⟩), .pointer (some ⟨Bm, 0, none⟩)]) rfl trivial (enters_of Tryd.func73 (by kernel_rfl) rfl)
    (line_stops hm hn k (3 - 1) (by omega) Bd Ba Bm w.heap.size W0 hd ha hmm hBW.size (bd.below hBW hd) (ba.below hBW ha) (bm.below hBW hmm)) belowK_t (belowK_b hBW.size) (Below.refl _ _) (fun _ => rfl)
    (Gath w mo Bl) (GathX w mo Bl) (gath_own w mo Bl _ hBW.size) (gathX_own w mo Bl _ hBW.size) hG0
    (fun x => { tmps := #[.func (.func 73) #[] #[.pointer (some ⟨Bd, 0, none⟩), .pointer (some ⟨Ba, 0, none⟩), .pointer (some ⟨Bm, 0, none⟩)], I mo, undef, .pointer (some ⟨w.heap.size, 0, none⟩), .slice none 0 0, .pointer (some ⟨Bl, 0, none⟩), I x, I mo, .slice (some ⟨w.heap.size + 1, 0, none⟩) 0 cap1, .func (.func 73) #[] #[.pointer (some ⟨Bd, 0, none⟩), .pointer (some ⟨Ba, 0, none⟩), .pointer (some ⟨Bm, 0, none⟩)], I x, undef, undef, undef, undef, undef, undef, undef, undef, undef, undef, undef], defers := [] }) ?assign ?body ?done ?stop
  case assign =>
    intro l x W K hK
    gi_wp2
    exact hK
  case body =>
    rintro l pre x W ⟨⟨g, cap, hbl, hL⟩, hq, hB, hle⟩ _
    have c0 := hbl.cell 0
    have f0 := hbl.frozen 0
    have c1 := hq.cell 0
    simp at c0 c1
    have hne := hL.ne hbl (by decide)
    by_cases he : pre.length = mo
    · have HE : Hid (pre.length = mo) := he
      have ht : ((pre.length : Int) == (mo : Int)) = true := by simp [he]
      clear he
      gi_wp2
      exact ⟨KeepsOthers.refl _, rfl, pre, x, rfl, HE.out, ⟨⟨g, cap, hbl, hL⟩, hq, hB, hle⟩⟩
    · have HE : Hid (pre.length ≠ mo) := he
      have ht : ((pre.length : Int) == (mo : Int)) = false := by simp; omega
      clear he
      gi_wp2_with (gi_at_builtin; refine wpListIn_app rfl _ _ rfl rfl rfl hL (by omega) (Nat.succ_le_of_lt hq.lt) ?_; intro g2 cap2 w2 hL2 hB2 hg2; have hbl2 := hbl.grown hg2 hne; have c2 := hbl2.cell 0; have f2 := hbl2.frozen 0; simp at c2)
      have hg2' : W.grownBy w2 (some g) := hg2
      have hne2 := hL2.ne hbl2 (by decide)
      have e1 : (pre ++ [x]).length = pre.length + 1 := by simp
      have hlt : pre.length < mo := by have := HE.out; omega
      refine ⟨(keeps_grown hL hg2').trans (KeepsOthers.setCell _ _ _), (hB2.mono (by omega)).setCell (p := ⟨Bl, 0, none⟩) (by show _ ≤ Bl; omega) _, ⟨⟨g2, cap2, ?_, ?_⟩, ?_, ?_, by omega⟩⟩
      · rw [e1]; exact hbl2.set 0 _
      · rw [e1]; exact hL2.set hne2 0 _
      · exact (hq.below hB2 (by omega)).other 0 _ (by omega)
      · exact (hB.trans (hB2.mono (by omega))).setCell (p := ⟨Bl, 0, none⟩) (by show _ ≤ Bl; omega) _
  case done =>
    rintro D xs W hD hxs ⟨⟨g, cap, hbl, hL⟩, hq, hB, hle⟩ hK
    have hD' : w.heap.size ≤ D := Nat.le_trans hBW.size hD
    have HT : Hid (xs = (outW d0 d1 d2 m k).take mo) := by show _ = _; rw [← hxs, List.take_of_length_le hle]
    clear hxs
    have hbl' := hbl.cell 0
    simp at hbl'
    have hne := hL.ne hbl (by decide)
    gi_wp2_with fail
    refine ⟨trivial, (callsIn_wide.2 (sort_calls W hL (by intro e; cases e) (by omega))).mono ?_⟩
    rintro e w2 ⟨rfl, hL2, hB2, hg2⟩
    have hg2' : W.grownBy w2 (some g) := hg2
    have hbl2 := (hbl.grown hg2' hne).cell 0
    simp at hbl2
    have hK2 := (keeps_grown hL hg2').same D _ hK rfl
    have hBe : Below w.heap.size w w2 := hB.trans (hB2.mono (by omega))
    gi_wp2
    refine ⟨by simp, .inl ⟨_, _, rfl, run_takeDeferred hK2, ?_⟩⟩
    have hr' : ∀ r, some D = some r → ∃ o : Obj, w2.heap[r]? = some o ∧ o.isCells = false := fun r e => by cases e; exact ⟨_, hK2, rfl⟩
    refine ⟨_, results_tmp rfl _ _ _, _, rfl, ?_, below_put _ hBe (by omega) hK2⟩
    rw [← HT.out]
    exact (hL2.kept (grownBy_putObj' w2 D _) hr').weak (by omega)
  case stop =>
    rintro D c pre W hD hpre ⟨rfl, ini, x, hpe, hin, ⟨⟨g, cap, hbl, hL⟩, hq, hB, hle⟩⟩ hK
    have hD' : w.heap.size ≤ D := Nat.le_trans hBW.size hD
    have HT : Hid (ini = (outW d0 d1 d2 m k).take mo) := by
      have h1 : ini <+: outW d0 d1 d2 m k := (List.prefix_append ini [x]).trans (hpe ▸ hpre)
      have h2 := List.prefix_iff_eq_take.1 h1
      show _ = _
      rw [hin] at h2
      exact h2
    clear hpre hpe hin
    have hbl' := hbl.cell 0
    simp at hbl'
    have hne := hL.ne hbl (by decide)
    gi_wp2_with fail
    refine ⟨trivial, (callsIn_wide.2 (sort_calls W hL (by intro e; cases e) (by omega))).mono ?_⟩
    rintro e w2 ⟨rfl, hL2, hB2, hg2⟩
    have hg2' : W.grownBy w2 (some g) := hg2
    have hbl2 := (hbl.grown hg2' hne).cell 0
    simp at hbl2
    have hK2 := (keeps_grown hL hg2').same D _ hK rfl
    have hBe : Below w.heap.size w w2 := hB.trans (hB2.mono (by omega))
    gi_wp2
    refine ⟨by simp, .inl ⟨_, _, rfl, run_takeDeferred hK2, ?_⟩⟩
    have hr' : ∀ r, some D = some r → ∃ o : Obj, w2.heap[r]? = some o ∧ o.isCells = false := fun r e => by cases e; exact ⟨_, hK2, rfl⟩
    refine ⟨_, results_tmp rfl _ _ _, _, rfl, ?_, below_put _ hBe (by omega) hK2⟩
    rw [← HT.out]
    exact (hL2.kept (grownBy_putObj' w2 D _) hr').weak (by omega)

end Go.Proofs.YtbedhpooeabehaaDoor

/-
  score.count: how many sides of a set's midplanes are toward those in any of some sets, and how many toward the others.
-/
namespace Go.Proofs.YtbedhpooeabehaaDoor
open Go Go.RowKit Go.Shelf

attribute [local go_sem] Oper.semAt_some ext_const

/-- What count keeps: its five blocks and the list. -/
structure CntPv (w : World) (d0 d1 d2 N : Int) (vs : Value) (B : Nat) (u : Value) (xs : List Int) (x y : Nat) (V : World) : Prop where
  below : Below w.heap.size w V
  d : Blk V B 26 #[I d0, I d1, I d2]
  n : Blk V (B + 1) 3 #[I N]
  s : Blk V (B + 2) 62 #[vs]
  a : Blk V (B + 3) 3 #[I x]
  b : Blk V (B + 4) 3 #[I y]
  e : Blk V (B + 5) 22 #[I 0]
  l : Lst V (B + 6) u xs
section
variable {w V V' : World} {d0 d1 d2 N : Int} {vs : Value} {B : Nat} {u : Value} {xs : List Int} {x y : Nat}
theorem CntPv.later (h : CntPv w d0 d1 d2 N vs B u xs x y V) (hb : Below V.heap.size V V') : CntPv w d0 d1 d2 N vs B u xs x y V' :=
  ⟨then_below h.below hb, h.d.later hb, h.n.later hb, h.s.later hb, h.a.later hb, h.b.later hb, h.e.later hb, h.l.later hb⟩
theorem CntPv.grown (h : CntPv w d0 d1 d2 N vs B u xs x y V) {row : Option Nat} (hg : V.grownBy V' row) (hr : ∀ r, row = some r → w.heap.size ≤ r ∧ ∃ o : Obj, V.heap[r]? = some o ∧ o.isCells = false) : CntPv w d0 d1 d2 N vs B u xs x y V' := by
  have hc : ∀ r, row = some r → ∃ o : Obj, V.heap[r]? = some o ∧ o.isCells = false := fun r e => (hr r e).2
  exact ⟨h.below.grown hg h.below.size (fun r e => (hr r e).1), h.d.kept hg hc, h.n.kept hg hc, h.s.kept hg hc, h.a.kept hg hc, h.b.kept hg hc, h.e.kept hg hc, h.l.kept hg hc⟩
theorem CntPv.putA (h : CntPv w d0 d1 d2 N vs B u xs x y V) (hB : w.heap.size ≤ B) : CntPv w d0 d1 d2 N vs B u xs (x + 1) y (V.setCell ⟨B + 3, 0, none⟩ (I ((x : Int) + 1))) :=
  ⟨h.below.setCell (p := ⟨B + 3, 0, none⟩) (by show w.heap.size ≤ B + 3; omega) _, h.d.other _ _ (by omega), h.n.other _ _ (by omega), h.s.other _ _ (by omega), h.a.set 0 _, h.b.other _ _ (by omega), h.e.other _ _ (by omega), h.l.store (by omega) _⟩
theorem CntPv.putB (h : CntPv w d0 d1 d2 N vs B u xs x y V) (hB : w.heap.size ≤ B) : CntPv w d0 d1 d2 N vs B u xs x (y + 1) (V.setCell ⟨B + 4, 0, none⟩ (I ((y : Int) + 1))) :=
  ⟨h.below.setCell (p := ⟨B + 4, 0, none⟩) (by show w.heap.size ≤ B + 4; omega) _, h.d.other _ _ (by omega), h.n.other _ _ (by omega), h.s.other _ _ (by omega), h.a.other _ _ (by omega), h.b.set 0 _, h.e.other _ _ (by omega), h.l.store (by omega) _⟩
end
theorem MarkB.cellSet {n : Nat} {bs : List Nat} {W : World} (h : MarkB n bs W) {B : Nat} {t : TypeId} {vs : Array Value} (hB : Blk W B t vs) (i : Nat) (v : Value) : MarkB n bs (W.setCell ⟨B, i, none⟩ v) :=
  ⟨h.1, fun b hm => ⟨(h.2 b hm).1, (RowKit.Below.heap_setCell _ _ _ _ (fun e => by
    have e : b = B := e
    subst e
    have h1 := (h.2 b hm).2
    rw [show W.heap[b]? = _ from hB] at h1
    cases h1)).trans (h.2 b hm).2⟩⟩
/-- How it all ends. -/
def CntFin (w : World) (B x y : Nat) (V : World) : Prop := Below w.heap.size w V ∧ Blk V (B + 3) 3 #[I x] ∧ Blk V (B + 4) 3 #[I y] ∧ Blk V (B + 5) 22 #[I 0]
theorem CntFin.grown {w V V' : World} {B x y : Nat} (h : CntFin w B x y V) {row : Option Nat} (hg : V.grownBy V' row) (hr : ∀ r, row = some r → w.heap.size ≤ r ∧ ∃ o : Obj, V.heap[r]? = some o ∧ o.isCells = false) : CntFin w B x y V' := by
  have hc : ∀ r, row = some r → ∃ o : Obj, V.heap[r]? = some o ∧ o.isCells = false := fun r e => (hr r e).2
  exact ⟨h.1.grown hg h.1.size (fun r e => (hr r e).1), h.2.1.kept hg hc, h.2.2.1.kept hg hc, h.2.2.2.kept hg hc⟩
theorem CntPv.fin {w V : World} {d0 d1 d2 N : Int} {vs : Value} {B : Nat} {u : Value} {xs : List Int} {x y : Nat} (h : CntPv w d0 d1 d2 N vs B u xs x y V) (hB : w.heap.size ≤ B) {bs : List Nat} {n : Nat} (mk : MarkB n bs V) :
    CntFin w B x y (((V.setCell ⟨B + 3, 0, none⟩ (I x)).setCell ⟨B + 4, 0, none⟩ (I y)).setCell ⟨B + 5, 0, none⟩ (I 0)).drew ∧ MarkB n bs (((V.setCell ⟨B + 3, 0, none⟩ (I x)).setCell ⟨B + 4, 0, none⟩ (I y)).setCell ⟨B + 5, 0, none⟩ (I 0)).drew := by
  have b1 := h.b.other (B' := B + 3) 0 (I x) (by omega)
  have e1 := (h.e.other (B' := B + 3) 0 (I x) (by omega)).other (B' := B + 4) 0 (I y) (by omega)
  refine ⟨⟨(((h.below.setCell (p := ⟨B + 3, 0, none⟩) (by show w.heap.size ≤ B + 3; omega) _).setCell (p := ⟨B + 4, 0, none⟩) (by show w.heap.size ≤ B + 4; omega) _).setCell (p := ⟨B + 5, 0, none⟩) (by show w.heap.size ≤ B + 5; omega) _).drew, ((h.a.set 0 _).other _ _ (by omega)).other _ _ (by omega), (b1.set 0 _).other _ _ (by omega), e1.set 0 _⟩, ((mk.cellSet h.a _ _).cellSet b1 _ _).cellSet e1 _ _⟩

/-- What stays as it lies while sides are handed out: all but the two counts. -/
def okC (B : Nat) (k : Nat) (_ : TypeId) : Bool := k != B + 3 && k != B + 4
theorem okC_ne {B k : Nat} (h3 : k ≠ B + 3) (h4 : k ≠ B + 4) (t : TypeId) : okC B k t = true := by simp [okC, h3, h4]
theorem okC_a (B : Nat) (t : TypeId) : okC B (B + 3) t = false := by simp [okC]
theorem okC_b (B : Nat) (t : TypeId) : okC B (B + 4) t = false := by simp [okC]

/-- A list of ints at a number. -/
theorem Lst.atQ {W : World} {base : Nat} {ao : Option Addr} {n cap : Nat} {xs : List Int} (h : Lst W base (.slice ao n cap) xs) {k : Nat} (hk : k < xs.length) :
    ∃ g cur, ao = some ⟨g, 0, none⟩ ∧ Blk W g 3 cur ∧ cur[k]? = some (I (xs.getD k 0)) := by
  obtain ⟨ao', cap', e, hv⟩ := h.view
  rw [Value.slice.injEq] at e
  obtain ⟨g, cur, hg, hb, hc⟩ := hv k hk
  exact ⟨g, cur, e.1.trans hg, hb, hc⟩

/-- Six blocks laid one after another. -/
theorem six_begin (w : World) (c0 c1 c2 c3 c4 c5 : Array Value) (t0 t1 t2 t3 t4 t5 : TypeId) :
    ∃ U, U = ((((((w.alloc (.cells c0 t0)).alloc (.cells c1 t1)).alloc (.cells c2 t2)).alloc (.cells c3 t3)).alloc (.cells c4 t4)).alloc (.cells c5 t5)) ∧ Below w.heap.size w U ∧ U.heap.size = w.heap.size + 6 ∧
      Blk U w.heap.size t0 c0 ∧ Blk U (w.heap.size + 1) t1 c1 ∧ Blk U (w.heap.size + 2) t2 c2 ∧ Blk U (w.heap.size + 3) t3 c3 ∧ Blk U (w.heap.size + 4) t4 c4 ∧ Blk U (w.heap.size + 5) t5 c5 := by
  refine ⟨_, rfl, ?_, by simp, ?_, ?_, ?_, ?_, ?_, ?_⟩
  · exact ((((((Below.refl _ w).alloc (Nat.le_refl _) _).alloc (by simp) _).alloc (by simp; omega) _).alloc (by simp; omega) _).alloc (by simp; omega) _).alloc (by simp; omega) _
  · exact (((((Blk.new w t0 c0).alloc (.cells c1 t1)).alloc (.cells c2 t2)).alloc (.cells c3 t3)).alloc (.cells c4 t4)).alloc (.cells c5 t5)
  · have := ((((Blk.new (w.alloc (.cells c0 t0)) t1 c1).alloc (.cells c2 t2)).alloc (.cells c3 t3)).alloc (.cells c4 t4)).alloc (.cells c5 t5)
    simpa using this
  · have := (((Blk.new ((w.alloc (.cells c0 t0)).alloc (.cells c1 t1)) t2 c2).alloc (.cells c3 t3)).alloc (.cells c4 t4)).alloc (.cells c5 t5)
    simpa using this
  · have := ((Blk.new (((w.alloc (.cells c0 t0)).alloc (.cells c1 t1)).alloc (.cells c2 t2)) t3 c3).alloc (.cells c4 t4)).alloc (.cells c5 t5)
    simpa using this
  · have := (Blk.new ((((w.alloc (.cells c0 t0)).alloc (.cells c1 t1)).alloc (.cells c2 t2)).alloc (.cells c3 t3)) t4 c4).alloc (.cells c5 t5)
    simpa using this
  · have := Blk.new (((((w.alloc (.cells c0 t0)).alloc (.cells c1 t1)).alloc (.cells c2 t2)).alloc (.cells c3 t3)).alloc (.cells c4 t4)) t5 c5
    simpa using this

set_option maxRecDepth 100000 in
set_option maxHeartbeats 16000000 in
theorem count_calls {d0 d1 d2 : Int} {v s : Value} {vs : List Value} {wss : List (List Nat)} {ws : List Nat} (w : World) (hTab : TabOk w) (hd : mayD d0 d1 d2) (hs : Wds w s ws) (hes : errAll (d0 * d1 * d2) [ws] = 0)
    (hv : Sl w v vs) (hl : vs.length = wss.length) (hs2 : vs.length ≤ 2) (hw : ∀ i, i < vs.length → Wds w (vs.getD i undef) (wss.getD i [])) (he : ∀ i, i < vs.length → errAll (d0 * d1 * d2) [wss.getD i []] = 0) :
    Calls Tryd.prog 20 #[A3 d0 d1 d2, I (d0 * d1 * d2), s, v] w fun e W' => e = .returned (.tuple #[I (sumL d0 d1 d2 (anyN wss) (listR (d0 * d1 * d2) ws)), I (sumL d0 d1 d2 (fun m => !anyN wss m) (listR (d0 * d1 * d2) ws)), I 0]) ∧ Below w.heap.size w W' := by
  have hN := N_bd hd
  have hLs : Hid (∀ W, Below w.heap.size w W → Calls Tryd.prog 33 #[I (d0 * d1 * d2), s] W fun e W' => ∃ u, e = .returned (.tuple #[u, I 0]) ∧ Lst W' W.heap.size u (listR (d0 * d1 * d2) ws) ∧ Below W.heap.size W W') := fun W hW => by
    have := list_calls W (hTab.below hW (hTab.lt)) (hs.later hW) (d0 * d1 * d2)
    rw [hes] at this
    exact this
  have hAn : Hid (∀ (m : Int) (W : World), 0 ≤ m → Below w.heap.size w W → Calls Tryd.prog 35 #[I (d0 * d1 * d2), I m, v] W fun e W' => e = .returned (.tuple #[.bool (anyN wss m), I 0]) ∧ Below W.heap.size W W') := fun m W hm hW =>
    inAny_calls m W hm (hv.later hW) hl hs2 (fun i hi => (hw i hi).later hW) he
  have hSd : Hid (∀ (m : Int) (W : World), Calls Tryd.prog 34 #[A3 d0 d1 d2, I m] W fun e W' => e = .returned (.func (.func 46) #[] #[.pointer (some ⟨W.heap.size, 0, none⟩), .pointer (some ⟨W.heap.size + 1, 0, none⟩)]) ∧ W' = (W.alloc (.cells #[I d0, I d1, I d2] 26)).alloc (.cells #[I m] 3)) := fun m W => sidesQ_calls d0 d1 d2 m W
  have hSq : Hid (∀ (m : Int) (W : World) (ok : Nat → TypeId → Bool) (Bd Bm : Nat), m ∈ listR (d0 * d1 * d2) ws → ok Bd 26 = true → ok Bm 3 = true → Blk W Bd 26 #[I d0, I d1, I d2] → Blk W Bm 3 #[I m] → SeqB Tryd.prog 46 #[.pointer (some ⟨Bd, 0, none⟩), .pointer (some ⟨Bm, 0, none⟩)] encQ ok (sidesL d0 d1 d2 m) W) := fun m W ok Bd Bm hm h1 h2 h3 h4 =>
    sidesQ_seq ok h1 h2 W hd (listR_in hes m hm) h3 h4
  have hIn : Hid (∀ m x, m ∈ listR (d0 * d1 * d2) ws → x ∈ sidesL d0 d1 d2 m → 0 ≤ x) := fun m x hm hx => (sides_in hd (listR_in hes m hm) x hx).1
  have hLn := listQ_len hes
  have hSm : Hid (∀ (q : Int → Bool) (xs : List Int) (m : Int), sumL d0 d1 d2 q (xs ++ [m]) = sumL d0 d1 d2 q xs + cntL q (sidesL d0 d1 d2 m)) := fun q xs m => sumL_app d0 d1 d2 q xs m
  have hSb : Hid (∀ (q : Int → Bool) (xs : List Int), sumL d0 d1 d2 q xs ≤ 6 * xs.length) := fun q xs => sumL_le d0 d1 d2 q xs
  have hS6 : Hid (∀ m, (sidesL d0 d1 d2 m).length ≤ 6) := fun m => sides_len d0 d1 d2 m
  obtain ⟨ao, cap, rfl, hv0⟩ := hv
  clear hv0
  obtain ⟨ao1, n1, c1, rfl⟩ : ∃ ao n c, s = .slice ao n c := by
    obtain ⟨ao, c, e, _⟩ := hs.view
    exact ⟨ao, _, c, e⟩
  have hL4 : (listR (d0 * d1 * d2) ws).length ≤ 4096 := by omega
  clear hTab hd hs hes hl hs2 hw he hLn hN
  generalize listR (d0 * d1 * d2) ws = L at *
  generalize hS : (fun q xs => sumL d0 d1 d2 q xs) = S at *
  have hS' : ∀ q xs, sumL d0 d1 d2 q xs = S q xs := fun q xs => by rw [← hS]
  have hS0 : Hid (∀ q, S q [] = 0) := fun q => by rw [← hS]; rfl
  simp only [hS'] at hSm hSb ⊢
  clear hS hS'
  generalize sidesL d0 d1 d2 = Q at *
  generalize anyN wss = an at *
  generalize d0 * d1 * d2 = N at *
  generalize vs.length = n2 at *
  refine (callsIn_wide (n := 3)).1 ?_
  refine callsIn_of_wp_marks Tryd.func20 rfl trivial ?_ rfl
  simp only [Tryd.ntmps20, List.size_toArray, List.length_cons, List.length_nil, Nat.reduceAdd, Nat.reduceSub, Array.replicate_succ, Array.replicate_zero, List.push_toArray, List.append_toArray, List.nil_append, List.cons_append]
  obtain ⟨U0, hU0, hB0, hz0, kd, kn, ks, ka, kb, ke⟩ := six_begin w #[I d0, I d1, I d2] #[I N] #[.slice ao n2 cap] #[I 0] #[I 0] #[I 0] 26 3 62 3 3 22
  have HU : Hid (_ = U0) := hU0.symm
  have d1' := kn.cell 0
  have l1' := kn.lt
  simp at d1'
  rw [hU0] at d1' l1'
  clear hU0
  gi_wp2_with fail
  rw [HU.out]
  refine ⟨trivial, (callsIn_wide.2 (hLs.out _ hB0)).mono ?_⟩
  rintro e w1 ⟨u, rfl, hLu, hB1⟩
  clear d1' l1' HU
  replace kd := kd.later hB1
  replace kn := kn.later hB1
  replace ks := ks.later hB1
  replace ka := ka.later hB1
  replace kb := kb.later hB1
  replace ke := ke.later hB1
  have hT := then_below hB0 hB1
  rw [hz0] at hLu
  obtain ⟨al, cl, rfl, hvw⟩ := hLu.view
  clear hvw
  have pv0 : CntPv w d0 d1 d2 N (.slice ao n2 cap) w.heap.size (.slice al L.length cl) L 0 0 (w1.setCell ⟨w.heap.size + 5, 0, none⟩ (I 0)) :=
    ⟨hT.setCell (p := ⟨w.heap.size + 5, 0, none⟩) (by show w.heap.size ≤ w.heap.size + 5; omega) _, kd.other _ _ (by omega), kn.other _ _ (by omega), ks.other _ _ (by omega), ka.other _ _ (by omega), kb.other _ _ (by omega), ke.set 0 _, hLu.store (by omega) _⟩
  have c5 := ke.cell 0
  have f5 := ke.frozen 0
  have z5 := ke.lt
  simp at c5
  clear kd kn ks ka kb ke hLu hB0 hB1 hT hz0 hLs U0
  gi_wp2
  simp only [Nat.add_assoc, Nat.reduceAdd]
  have hS0a := hS0.out an
  have hS0b := hS0.out (fun m => !an m)
  have HB : Hid (w.heap.size ≤ w.heap.size) := Nat.le_refl _
  have mk0 : MarkB w.heap.size [] (w1.setCell ⟨w.heap.size + 5, 0, none⟩ (I 0)) := MarkB.nil _ _
  generalize w1.setCell ⟨w.heap.size + 5, 0, none⟩ (I 0) = w2 at *
  clear c5 f5 z5 w1
  refine wpIn_loop_ghost_k (fun n a wr => ∃ (k : Nat) (bs : List Nat) (u13 u29 u30 u31 u32 u33 u34 u51 : Value), n + k = L.length ∧ a = { tmps := #[A3 d0 d1 d2, I N, .slice ao1 n1 c1, .slice ao n2 cap, .pointer (some ⟨w.heap.size, 0, none⟩), .pointer (some ⟨w.heap.size + 1, 0, none⟩), undef, .pointer (some ⟨w.heap.size + 2, 0, none⟩), .pointer (some ⟨w.heap.size + 3, 0, none⟩), .pointer (some ⟨w.heap.size + 4, 0, none⟩), .pointer (some ⟨w.heap.size + 5, 0, none⟩), .slice al L.length cl, undef, u13, undef, undef, undef, .tuple #[.slice al L.length cl, I 0], I N, .slice ao1 n1 c1, .tuple #[.slice al L.length cl, I 0], .slice al L.length cl, I 0, I 0, .bool false, undef, .slice al L.length cl, .int .i64 L.length, .int .i64 k, u29, u30, u31, u32, u33, u34, undef, undef, undef, undef, undef, undef, undef, undef, undef, undef, undef, undef, undef, undef, undef, undef, u51, undef, undef], defers := markDs bs } ∧ CntPv w d0 d1 d2 N (.slice ao n2 cap) w.heap.size (.slice al L.length cl) L (S an (L.take k)) (S (fun m => !an m) (L.take k)) wr ∧ MarkB w.heap.size bs wr) L.length ⟨0, [], _, _, _, _, _, _, _, _, by omega, rfl, by rw [List.take_zero, hS0a, hS0b]; exact pv0, mk0⟩ ?_
  intro n a wr hI Jg K hJg hK
  obtain ⟨k, bs, u13, u29, u30, u31, u32, u33, u34, u51, hn, rfl, pv1, mk1⟩ := hI
  have HK : Hid ((∀ k a' w', _ → Jg k a' w') ∧ (∀ a' w', Handed Jg n a' w' → K a' w')) := ⟨hJg, hK⟩
  clear hJg hK pv0 mk0 hS0a hS0b hS0 w2
  by_cases hlt : (k : Int) < (L.length : Int)
  · have hk : k < L.length := by omega
    obtain ⟨g, cur, rfl, hblk, hcur⟩ := pv1.l.atQ hk
    have cg := (hblk.cell k).trans hcur
    have zg := hblk.lt
    have hmem : L.getD k 0 ∈ L := by
      rw [List.getD_eq_getElem?_getD, List.getElem?_eq_getElem hk]
      exact List.getElem_mem hk
    have hbx : S an (L.take k) ≤ 24576 ∧ S (fun m => !an m) (L.take k) ≤ 24576 := by
      have h1 := hSb.out an (L.take k)
      have h2 := hSb.out (fun m => !an m) (L.take k)
      rw [List.length_take] at h1 h2
      omega
    have HSt : Hid (∀ q, S q (L.take (k + 1)) = S q (L.take k) + cntL q (Q (L.getD k 0))) := fun q => by
      rw [← hSm.out q]
      congr 1
      rw [List.take_succ_eq_append_getElem hk]
      simp [hk]
    have HSqk : Hid (∀ (W : World) (ok : Nat → TypeId → Bool) (Bd Bm : Nat), ok Bd 26 = true → ok Bm 3 = true → Blk W Bd 26 #[I d0, I d1, I d2] → Blk W Bm 3 #[I (L.getD k 0)] → SeqB Tryd.prog 46 #[.pointer (some ⟨Bd, 0, none⟩), .pointer (some ⟨Bm, 0, none⟩)] encQ ok (Q (L.getD k 0)) W) := fun W ok Bd Bm => hSq.out (L.getD k 0) W ok Bd Bm hmem
    have HIn : Hid (∀ x, x ∈ Q (L.getD k 0) → 0 ≤ x) := fun x => hIn.out _ x hmem
    have HQ6 : Hid ((Q (L.getD k 0)).length ≤ 6) := hS6.out _
    have hSd' : Hid (∀ (W : World), Calls Tryd.prog 34 #[A3 d0 d1 d2, I (L.getD k 0)] W fun e W' => e = .returned (.func (.func 46) #[] #[.pointer (some ⟨W.heap.size, 0, none⟩), .pointer (some ⟨W.heap.size + 1, 0, none⟩)]) ∧ W' = (W.alloc (.cells #[I d0, I d1, I d2] 26)).alloc (.cells #[I (L.getD k 0)] 3)) := fun W => hSd.out _ W
    clear hcur hblk hmem hSq hIn hS6 hSm hSb hSd
    generalize L.getD k 0 = m at *
    generalize hql : Q m = QL at *
    clear hql
    obtain ⟨x0, hx0⟩ : ∃ x, x = S an (L.take k) := ⟨_, rfl⟩
    obtain ⟨y0, hy0⟩ : ∃ x, x = S (fun m => !an m) (L.take k) := ⟨_, rfl⟩
    rw [← hx0, ← hy0] at pv1 hbx
    have HSx : Hid (S an (L.take (k + 1)) = x0 + cntL an QL ∧ S (fun m => !an m) (L.take (k + 1)) = y0 + cntL (fun m => !an m) QL) := ⟨by rw [HSt.out, ← hx0], by rw [HSt.out, ← hy0]⟩
    clear hx0 hy0 HSt
    obtain ⟨e0, e1, e2, hez⟩ := pv1.d.three (Below.refl _ _)
    gi_wp2_with fail
    refine ⟨trivial, (callsIn_wide.2 (hSd'.out _)).mono ?_⟩
    rintro e w3 ⟨rfl, rfl⟩
    obtain ⟨U1, hU1, hbU, hsq⟩ : ∃ U1, U1 = ((wr.alloc (.cells #[I d0, I d1, I d2] 26)).alloc (.cells #[I m] 3)) ∧ Below wr.heap.size wr U1 ∧ SeqB Tryd.prog 46 #[.pointer (some ⟨wr.heap.size, 0, none⟩), .pointer (some ⟨wr.heap.size + 1, 0, none⟩)] encQ (okC w.heap.size) QL U1 := by
      have h5 := pv1.e.lt
      refine ⟨_, rfl, ((Below.refl _ wr).alloc (Nat.le_refl _) _).alloc (by simp) _, HSqk.out _ _ _ _ (okC_ne (by omega) (by omega) _) (okC_ne (by omega) (by omega) _) ((Blk.new wr 26 #[I d0, I d1, I d2]).alloc _) ?_⟩
      have := Blk.new (wr.alloc (.cells #[I d0, I d1, I d2] 26)) 3 #[I m]
      simpa using this
    rw [← hU1]
    have pvU := pv1.later hbU
    have HM1 : Hid (MarkB w.heap.size bs U1) := mk1.later hbU
    have HML : Hid (∀ d ∈ bs, d < U1.heap.size) := fun d hd => (mk1.later hbU).lt hd
    have HWU : Hid (w.heap.size + 5 < U1.heap.size) := pvU.e.lt
    clear hU1 hbU pv1 mk1 e0 e1 e2 hez cg zg HSqk hSd'
    generalize wr.heap.size + 1 = B2 at *
    generalize wr.heap.size = B1 at *
    clear wr
    gi_wp2_with fail
    refine wpIn_rangeB rfl (enters_of Tryd.func46 (by kernel_rfl) rfl) hsq (Below.refl _ _) (fun _ => rfl)
      (fun pre V => CntPv w d0 d1 d2 N (.slice ao n2 cap) w.heap.size (.slice (some ⟨g, 0, none⟩) L.length cl) L (x0 + cntL an pre) (y0 + cntL (fun m => !an m) pre) V ∧ MarkB w.heap.size bs V)
      (fun _ _ _ => False)
      (fun pre A A' row hs hgr hr => ⟨hs.1.grown hgr (fun r e => ⟨by have := (hr r e).1; have := HWU.out; omega, (hr r e).2⟩), hs.2.grown HML.out hgr hr⟩)
      (fun _ _ _ _ _ hs _ _ => hs)
      ⟨pvU, HM1.out⟩
      (fun xx a' _ => a' = { tmps := #[A3 d0 d1 d2, I N, .slice ao1 n1 c1, .slice ao n2 cap, .pointer (some ⟨w.heap.size, 0, none⟩), .pointer (some ⟨w.heap.size + 1, 0, none⟩), undef, .pointer (some ⟨w.heap.size + 2, 0, none⟩), .pointer (some ⟨w.heap.size + 3, 0, none⟩), .pointer (some ⟨w.heap.size + 4, 0, none⟩), .pointer (some ⟨w.heap.size + 5, 0, none⟩), .slice (some ⟨g, 0, none⟩) L.length cl, undef, I m, I xx, undef, undef, .tuple #[.slice (some ⟨g, 0, none⟩) L.length cl, I 0], I N, .slice ao1 n1 c1, .tuple #[.slice (some ⟨g, 0, none⟩) L.length cl, I 0], .slice (some ⟨g, 0, none⟩) L.length cl, I 0, I 0, .bool false, undef, .slice (some ⟨g, 0, none⟩) L.length cl, .int .i64 L.length, .int .i64 k, .bool true, .pointer (some ⟨g, k, none⟩), I m, .agg #[I d0, I d1, I d2], I m, .func (.func 46) #[] #[.pointer (some ⟨B1, 0, none⟩), .pointer (some ⟨B2, 0, none⟩)], I xx, undef, undef, undef, undef, undef, undef, undef, undef, undef, undef, undef, undef, undef, undef, undef, u51, undef, undef], defers := [] })
      (fun _ _ _ _ _ _ hs _ _ => hs) ?assign ?body ?done ?stop
    case assign =>
      rintro l2 pre xx V K2 hI hK2
      gi_wp2
      exact hK2 _ _ ((keeps_below (Below.refl _ V)).from _) (KeepB.refl _ _) hI rfl
    case body =>
      rintro l2 pre xx a' V hpre hl2 _ ⟨pv, mk⟩ rfl
      have hx0 : 0 ≤ xx := HIn.out xx (hpre.subset (by simp))
      have hcl : cntL an pre ≤ 6 ∧ cntL (fun m => !an m) pre ≤ 6 := by
        have h1 := cntL_le an pre
        have h2 := cntL_le (fun m => !an m) pre
        have h3 := hpre.length_le
        have h4 := HQ6.out
        rw [List.length_append] at h3
        omega
      have HH : Hid (Calls Tryd.prog 35 #[I N, I xx, .slice ao n2 cap] V fun e W' => e = .returned (.tuple #[.bool (an xx), I 0]) ∧ Below V.heap.size V W') := hAn.out xx V hx0 pv.below
      have HC1 : Hid (an xx = true → cntL an (pre ++ [xx]) = cntL an pre + 1 ∧ cntL (fun m => !an m) (pre ++ [xx]) = cntL (fun m => !an m) pre) := fun h => ⟨cntL_yes h _, cntL_no (q := fun m => !an m) (by simp [h]) _⟩
      have HC0 : Hid (an xx = false → cntL an (pre ++ [xx]) = cntL an pre ∧ cntL (fun m => !an m) (pre ++ [xx]) = cntL (fun m => !an m) pre + 1) := fun h => ⟨cntL_no h _, cntL_yes (q := fun m => !an m) (by simp [h]) _⟩
      have HI : Hid (∀ {V' : World} {x y : Nat}, x = x0 + cntL an (pre ++ [xx]) → y = y0 + cntL (fun m => !an m) (pre ++ [xx]) → CntPv w d0 d1 d2 N (.slice ao n2 cap) w.heap.size (.slice (some ⟨g, 0, none⟩) L.length cl) L x y V' → CntPv w d0 d1 d2 N (.slice ao n2 cap) w.heap.size (.slice (some ⟨g, 0, none⟩) L.length cl) L (x0 + cntL an (pre ++ [xx])) (y0 + cntL (fun m => !an m) (pre ++ [xx])) V') := fun hx hy h => by rw [← hx, ← hy]; exact h
      have n0 := pv.n.cell 0
      have nz := pv.n.lt
      have s0 := pv.s.cell 0
      have sz := pv.s.lt
      simp at n0 s0
      have HP : Hid (CntPv w d0 d1 d2 N (.slice ao n2 cap) w.heap.size (.slice (some ⟨g, 0, none⟩) L.length cl) L (x0 + cntL an pre) (y0 + cntL (fun m => !an m) pre) V ∧ MarkB w.heap.size bs V) := ⟨pv, mk⟩
      clear pv mk hpre
      obtain ⟨x1, hx1⟩ : ∃ x, x = x0 + cntL an pre := ⟨_, rfl⟩
      obtain ⟨y1, hy1⟩ : ∃ x, x = y0 + cntL (fun m => !an m) pre := ⟨_, rfl⟩
      rw [← hx1, ← hy1] at HP
      have hb1 : x1 ≤ 30000 ∧ y1 ≤ 30000 := by omega
      have HX : Hid (x1 = x0 + cntL an pre ∧ y1 = y0 + cntL (fun m => !an m) pre) := ⟨hx1, hy1⟩
      clear hx1 hy1 hcl hbx
      generalize an xx = ans at *
      gi_wp2_with fail
      refine ⟨trivial, rfl, (CallsIn.inRound l2 (callsIn_wide.2 HH.out)).mono ?_⟩
      rintro e V2 ⟨rfl, hB2⟩
      have pv2 := HP.out.1.later hB2
      have HM2 : Hid (Below V.heap.size V V2 ∧ MarkB w.heap.size bs (V2.setCell ⟨w.heap.size + 3, 0, none⟩ (I ((x1 : Int) + 1))) ∧ MarkB w.heap.size bs (V2.setCell ⟨w.heap.size + 4, 0, none⟩ (I ((y1 : Int) + 1)))) := ⟨hB2, (HP.out.2.later hB2).cellSet pv2.a _ _, (HP.out.2.later hB2).cellSet pv2.b _ _⟩
      clear n0 nz s0 sz hB2 HP HH
      cases ans
      · have a0 := pv2.b.cell 0
        have af := pv2.b.frozen 0
        have az := pv2.b.lt
        simp at a0
        have HE : Hid (CntPv w d0 d1 d2 N (.slice ao n2 cap) w.heap.size (.slice (some ⟨g, 0, none⟩) L.length cl) L (x0 + cntL an (pre ++ [xx])) (y0 + cntL (fun m => !an m) (pre ++ [xx])) (V2.setCell ⟨w.heap.size + 4, 0, none⟩ (I ((y1 : Int) + 1)))) :=
          HI.out (by rw [(HC0.out (by trivial)).1]; exact HX.out.1) (by rw [(HC0.out (by trivial)).2, HX.out.2]; omega) (pv2.putB (Nat.le_refl _))
        clear pv2
        gi_wp2
        exact ⟨((keeps_below HM2.out.1).from _).trans (keepsFrom_setCell _ (a := ⟨w.heap.size + 4, 0, none⟩) (by have := HWU.out; show w.heap.size + 4 < _; omega) _), (KeepB.below _ HM2.out.1).trans (keepB_setCell _ (okC_b _) _), HE.out, HM2.out.2.2⟩
      · have a0 := pv2.a.cell 0
        have af := pv2.a.frozen 0
        have az := pv2.a.lt
        simp at a0
        have HE : Hid (CntPv w d0 d1 d2 N (.slice ao n2 cap) w.heap.size (.slice (some ⟨g, 0, none⟩) L.length cl) L (x0 + cntL an (pre ++ [xx])) (y0 + cntL (fun m => !an m) (pre ++ [xx])) (V2.setCell ⟨w.heap.size + 3, 0, none⟩ (I ((x1 : Int) + 1)))) :=
          HI.out (by rw [(HC1.out (by trivial)).1, HX.out.1]; omega) (by rw [(HC1.out (by trivial)).2]; exact HX.out.2) (pv2.putA (Nat.le_refl _))
        clear pv2
        gi_wp2
        exact ⟨((keeps_below HM2.out.1).from _).trans (keepsFrom_setCell _ (a := ⟨w.heap.size + 3, 0, none⟩) (by have := HWU.out; show w.heap.size + 3 < _; omega) _), (KeepB.below _ HM2.out.1).trans (keepB_setCell _ (okC_a _) _), HE.out, HM2.out.2.1⟩
    case done =>
      rintro Db V hD ⟨pv, mk⟩ hDV
      have mk2 : MarkB w.heap.size (Db :: bs) V := mk.cons (by have := HWU.out; omega) hDV (fun d hd => Nat.lt_of_lt_of_le (HML.out d hd) hD)
      rw [← HSx.out.1, ← HSx.out.2] at pv
      have HE2 : Hid (CntPv w d0 d1 d2 N (.slice ao n2 cap) w.heap.size (.slice (some ⟨g, 0, none⟩) L.length cl) L (S an (L.take (k + 1))) (S (fun m => !an m) (L.take (k + 1))) V ∧ MarkB w.heap.size (Db :: bs) V) := ⟨pv, mk2⟩
      clear pv mk mk2 hDV hD
      gi_wp2
      exact HK.out.2 _ _ ⟨n - 1, by omega, HK.out.1 _ _ _ ⟨k + 1, Db :: bs, _, _, _, _, _, _, _, _, by omega, rfl, HE2.out.1, HE2.out.2⟩⟩
    case stop =>
      rintro D c pre V hD hpre h
      exact h.elim
  · obtain rfl : k = L.length := by omega
    rw [List.take_length] at pv1
    have HP : Hid (CntPv w d0 d1 d2 N (.slice ao n2 cap) w.heap.size (.slice al L.length cl) L (S an L) (S (fun m => !an m) L) wr ∧ MarkB w.heap.size bs wr) := ⟨pv1, mk1⟩
    have a3 := pv1.a.cell 0
    have f3 := pv1.a.frozen 0
    have z3 := pv1.a.lt
    have a4 := pv1.b.cell 0
    have f4 := pv1.b.frozen 0
    have z4 := pv1.b.lt
    have a5 := pv1.e.cell 0
    have f5 := pv1.e.frozen 0
    have z5 := pv1.e.lt
    simp at a3 a4 a5
    clear pv1 mk1
    gi_wp2_with fail
    gi_region
    have HF := HP.out.1.fin (Nat.le_refl _) HP.out.2
    have HF : Hid _ := HF
    clear a3 f3 z3 a4 f4 z4 a5 f5 z5 HP
    gi_wp2
    refine leaves_own (n := w.heap.size) (fun V' => CntFin w w.heap.size (S an L) (S (fun m => !an m) L) V') (fun _ A A' row hs hgr hr => hs.grown hgr hr) bs _ HF.out.2.1 HF.out.2.2 HF.out.1 (fun V' hV' _ => ?_)
    have a3 := hV'.2.1.cell 0
    have a4 := hV'.2.2.1.cell 0
    have a5 := hV'.2.2.2.cell 0
    simp at a3 a4 a5
    exact ⟨.tuple #[I (S an L), I (S (fun m => !an m) L), I 0], by simp [results, Tryd.f20, go_sem, a3, a4, a5], rfl, hV'.1⟩

end Go.Proofs.YtbedhpooeabehaaDoor

/-
  '==' between two rows of three whole numbers: as the numbers are.
-/
namespace Go.Proofs.YtbedhpooeabehaaDoor
open Go.RowKit

theorem eqIn_arr3 {P : Program} {t e : TypeId} {i : TypeInfo} (hu : P.underlying t = some (.array 3 e)) (he : P.underlying e = some (.int .i64)) (hi : P.info? e = some i) (hc : P.cellsOf e = 1) (hp : P.plainKey e = true)
    (a b c a' b' c' : Int) (w : World) : (Op.equalIn 10000 t (.agg #[.int .i64 a, .int .i64 b, .int .i64 c]) (.agg #[.int .i64 a', .int .i64 b', .int .i64 c'])).run P w = .ok (a == a' && (b == b' && c == c')) w := by
  rw [run_equalIn_array w 9999 _ _ hu hi, hc]
  have r3 : List.range 3 = [0, 1, 2] := rfl
  have p0 : ∀ (x y z : Value) (w : World), (part e #[x, y, z] 0).run P w = .ok x w := fun x y z w => run_part_plain w hp rfl
  have p1 : ∀ (x y z : Value) (w : World), (part e #[x, y, z] 1).run P w = .ok y w := fun x y z w => run_part_plain w hp rfl
  have p2 : ∀ (x y z : Value) (w : World), (part e #[x, y, z] 2).run P w = .ok z w := fun x y z w => run_part_plain w hp rfl
  have hq : ∀ (x y : Int) (w : World), (Op.equalIn 9999 e (.int .i64 x) (.int .i64 y)).run P w = .ok (x == y) w := fun x y w => run_equalIn_int w 9998 e .i64 .i64 x y he
  rw [r3]
  by_cases h0 : a = a' <;> by_cases h1 : b = b' <;> by_cases h2 : c = c' <;> simp [Op.eqItems, p0, p1, p2, hq, h0, h1, h2]

set_option maxRecDepth 100000 in
theorem eq_arr (a b c a' b' c' : Int) (w : World) : (Op.equalIn 10000 25 (.agg #[.int .i64 a, .int .i64 b, .int .i64 c]) (.agg #[.int .i64 a', .int .i64 b', .int .i64 c'])).run Tryd.prog w = .ok (a == a' && (b == b' && c == c')) w := by
  obtain ⟨i, hi⟩ : ∃ i, Tryd.prog.info? 3 = some i := ⟨_, rfl⟩
  exact eqIn_arr3 Tryd.underlying25 Tryd.underlying3 hi (by kernel_rfl) (by kernel_rfl) a b c a' b' c' w

end Go.Proofs.YtbedhpooeabehaaDoor

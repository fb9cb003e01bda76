/-
  slices.Sort over a list of whole numbers of a call's own, by the library's contract: the same numbers, sorted.
-/
import Derived.Test.YtlahfffgmfjpaaaGreatDoorPart3
import Derived.Shelf.Sort.Plain
import Derived.Shelf.Lay
import Derived.Sort.OwnSortedInts
import Derived.Ground.NamesProg
import Derived.Test.YtlahfffgmfjpaaaGreatDoorPart9
namespace Go.Proofs.YtlahfffgmfjpaaaGreatDoor
open Go Go.RowKit Go.Shelf Go.Sort Go.Lib

shelf_lay Lays.n189 Nm 189 at Tryz as sortI

/-- 'slices.Sort(list)'. -/
theorem sort_calls {base : Nat} {v : Value} {xs : List Int} (w : World) (hL : Lst w base v xs) (hv : v ≠ .slice none 0 0) (hn : xs.length ≤ 100000) :
    Calls Tryz.prog 151 #[v] w fun e W' => e = .returned (.tuple #[]) ∧ Lst W' base v (xs.mergeSort fun x y => decide (x ≤ y)) ∧ Below base w W' ∧ w.grownBy W' v.ownBlock := by
  obtain ⟨h1, h2⟩ := hL
  rcases h2 with ⟨h0, _⟩ | ⟨g, cap, cur, rfl, hg, hh, hc, hc2, hs, ht⟩
  · exact absurd h0 hv
  · have ht' : cur.toList.take xs.length = xs.map (Value.int .i64) := by simpa using ht
    have hcon := Any.slices_Sort_int sortI g 0 cap xs w (holds_of_blockI hh ht') (Array.getElem?_eq_some_iff.1 hh).1 (by omega)
    change Calls Tryz.prog 151 _ _ _ at hcon
    refine hcon.mono ?_
    rintro e W' ⟨rfl, n, os, rfl⟩
    have hl : (xs.mergeSort fun x y => decide (x ≤ y)).length = xs.length := List.length_mergeSort _
    refine ⟨rfl, ?_, ?_, grownBy_sortedI _⟩
    · have := ownsRow_sortedI (n := n) (os := os) (ts := xs.mergeSort fun x y => decide (x ≤ y)) hl hg hh hc hc2 hs
      unfold Lst
      rw [hl]
      exact this
    · exact (Below.refl base w).grown (grownBy_sortedI _) (Nat.le_trans hg (Nat.le_of_lt (Array.getElem?_eq_some_iff.1 hh).1)) (fun k hk => by cases hk; exact hg)

end Go.Proofs.YtlahfffgmfjpaaaGreatDoor

/-
  wire.rising: the first cables that are handed out, at most so many, in rising order, in new memory.
-/
namespace Go.Proofs.YtlahfffgmfjpaaaGreatDoor
open Go Go.RowKit Go.Shelf

attribute [local go_sem] Oper.semAt_some ext_const

/-- 'list = append(list, y)' within a fence, the list a call's own and not nil. -/
theorem wpListIn_app {F : Fence} {n : Nat} {ops : Array Oper} {rest : List Oper} {o : Oper} {a : Act} {Q : Exit → Act → World → Prop} {W : World} {base : Nat} {v : Value} {xs : List Int} {y : Int} (hgd : o.guard = none) (s x : Operand)
    (ho : o.op = .call { callee := .builtin .append, args := #[s, x], argTypes := #[158, 158] }) (hs : a.eval s = v) (hx : a.eval x = .slice (some ⟨W.heap.size, 0, none⟩) 1 1)
    (hown : Lst W base v xs) (hl : xs.length ≤ 100000) (hb : base ≤ W.heap.size)
    (h : ∀ g cap w', Lst w' base (.slice (some ⟨g, 0, none⟩) (xs.length + 1) cap) (xs ++ [y]) → Below base W w' → W.grownBy w' v.ownBlock → wpListIn F n Tryz.prog ops Q rest (a.put o.dst (.slice (some ⟨g, 0, none⟩) (xs.length + 1) cap)) w') : wpListIn F n Tryz.prog ops Q (o :: rest) a (W.alloc (.cells #[.int .i64 y] 3)) := by
  obtain ⟨i0, hi, hz0, hz1, hz2⟩ := info_parts info_int
  refine wpListIn_append_own (w := W.alloc (.cells #[.int .i64 y] 3)) hgd s x 158 ho base 3 i0 (.int .i64 0) 1 8 Tryz.underlying158 hi hz0 hz1 hz2 rfl (by decide) v xs.length _ hs (hown.alloc _) ⟨W.heap.size, 0, none⟩ 1 1 [.int .i64 y] hx rfl ?_ ?_ ?_ ?_ ?_ ?_
  · intro j u hj
    match j, hj with
    | 0, hj => simp at hj; subst hj; simp [Addr.add]
  · intro u hu; simp at hu; subst hu; rfl
  · unfold maxLen; omega
  · omega
  · simp; omega
  · intro v' w1 hown' hgrow hnil
    have hne : v' ≠ .slice none 0 0 := fun e => by have := (hnil.1 e).2; omega
    have hL' : Lst w1 base v' (xs ++ [y]) := by
      unfold Lst
      rw [List.map_append, List.length_append]
      exact hown'
    have hlen : (xs ++ [y]).length = xs.length + 1 := by simp
    rcases hL'.2 with ⟨h0, _⟩ | ⟨g, cap, cur, rfl, _⟩
    · exact absurd h0 hne
    · rw [hlen] at hL' ⊢
      refine h g cap w1 hL' ?_ ?_
      · exact ((Below.refl base W).alloc hb _).grown hgrow (by simp; omega) (fun k hk => (hown.lt k hk).1)
      · exact ⟨hgrow.os, hgrow.tape, hgrow.output, by have := hgrow.size; simp at this; omega, fun k hk hne => (hgrow.block k (by simp; omega) hne).trans (Below.heap_alloc W _ k hk)⟩

/-- 'make([]int, 0, n)' within a fence. -/
theorem wpListIn_mk {F : Fence} {m : Nat} {ops : Array Oper} {rest : List Oper} {o : Oper} {a : Act} {Q : Exit → Act → World → Prop} {W : World} {base : Nat} (hgd : o.guard = none) (l c : Operand) (ho : o.op = Op.makeSlice 158 l c) (n : Int)
    (hl : a.eval l = .int .i64 0) (hc : a.eval c = .int .i64 n) (h0 : 0 ≤ n) (h1 : n ≤ 100000) (hb : base ≤ W.heap.size)
    (h : ∀ cap w', Lst w' base (.slice (some ⟨W.heap.size, 0, none⟩) 0 cap) [] → Below W.heap.size W w' → wpListIn F m Tryz.prog ops Q rest (a.put o.dst (.slice (some ⟨W.heap.size, 0, none⟩) 0 cap)) w') : wpListIn F m Tryz.prog ops Q (o :: rest) a W := by
  obtain ⟨i0, hi, hz0, hz1, hz2⟩ := info_parts info_int
  refine wpListIn_make_own W hgd l c 158 ho base 3 i0 (.int .i64 0) 1 Tryz.underlying158 hi hz0 hz1 .i64 .i64 n n.toNat hl hc (by omega) (by rw [hz2]; omega) (by unfold maxLen; omega) hb ?_
  intro w' h1 h2
  exact h _ w' h1 ((Below.refl _ W).grown h2 (Nat.le_refl _) (fun k hk => by cases hk))

/-- A list stays where only other blocks turn. -/
theorem Lst.kept {W W' : World} {base : Nat} {v : Value} {xs : List Int} {row : Option Nat} (h : Lst W base v xs) (hg : W.grownBy W' row) (hr : ∀ r, row = some r → ∃ o : Obj, W.heap[r]? = some o ∧ o.isCells = false) : Lst W' base v xs := by
  obtain ⟨h1, h2⟩ := h
  refine ⟨h1, ?_⟩
  rcases h2 with h2 | ⟨g, cap, cur, e, hgb, hh, r⟩
  · exact .inl h2
  · exact .inr ⟨g, cap, cur, e, hgb, (grownBy_keeps_cells hg hr hh rfl).trans hh, r⟩
/-- .. or a cell of another type's block. -/
theorem Lst.ne {W : World} {base B g n cap : Nat} {t : TypeId} {vs : Array Value} {xs : List Int} (h : Lst W base (.slice (some ⟨g, 0, none⟩) n cap) xs) (hB : Blk W B t vs) (ht : t ≠ 3) : g ≠ B := by
  intro e
  subst e
  rcases h.2 with ⟨h0, _⟩ | ⟨g', cap', cur, e, _, hh, _⟩
  · cases h0
  · cases e
    rw [show W.heap[g]? = _ from hB] at hh
    cases hh
    exact ht rfl
theorem Lst.lt {W : World} {base g n cap : Nat} {xs : List Int} (h : Lst W base (.slice (some ⟨g, 0, none⟩) n cap) xs) : g < W.heap.size ∧ ∃ cur, W.heap[g]? = some (.cells cur 3 (0, 0)) := by
  rcases h.2 with ⟨h0, _⟩ | ⟨g', cap', cur, e, _, hh, _⟩
  · cases h0
  · cases e
    exact ⟨(Array.getElem?_eq_some_iff.1 hh).1, cur, hh⟩
theorem Lst.set {W : World} {base B g n cap : Nat} {xs : List Int} (h : Lst W base (.slice (some ⟨g, 0, none⟩) n cap) xs) (hne : g ≠ B) (i : Nat) (u : Value) : Lst (W.setCell ⟨B, i, none⟩ u) base (.slice (some ⟨g, 0, none⟩) n cap) xs := by
  obtain ⟨h1, h2⟩ := h
  refine ⟨h1, ?_⟩
  rcases h2 with h2 | ⟨g', cap', cur, e, hgb, hh, r⟩
  · exact .inl h2
  · cases e
    exact .inr ⟨g, cap, cur, rfl, hgb, (Below.heap_setCell W ⟨B, i, none⟩ u g hne).trans hh, r⟩
/-- What a step that turns a list's own row leaves. -/
theorem Blk.grown {W W' : World} {B g : Nat} {t : TypeId} {vs : Array Value} (h : Blk W B t vs) (hg : W.grownBy W' (some g)) (hne : g ≠ B) : Blk W' B t vs :=
  (hg.block B h.lt (fun e => hne (by cases e; rfl))).trans h
theorem keeps_grown {W W' : World} {base g n cap : Nat} {xs : List Int} (h : Lst W base (.slice (some ⟨g, 0, none⟩) n cap) xs) (hg : W.grownBy W' (some g)) : KeepsOthers W W' :=
  ⟨hg.size, fun k o hk ho => by
    obtain ⟨_, cur, hh⟩ := h.lt
    refine (hg.block k (Array.getElem?_eq_some_iff.1 hk).1 (fun e => ?_)).trans hk
    cases e
    rw [hh] at hk
    cases hk
    cases ho⟩

/-- What the loop keeps. -/
structure Gath (w : World) (mo Bl : Nat) (pre : List Int) (W : World) : Prop where
  row : ∃ g cap, Blk W Bl 158 #[.slice (some ⟨g, 0, none⟩) pre.length cap] ∧ Lst W (w.heap.size + 1) (.slice (some ⟨g, 0, none⟩) pre.length cap) pre
  most : Blk W w.heap.size 3 #[I mo]
  below : Below w.heap.size w W
  le : pre.length ≤ mo
theorem gath_own (w : World) (mo Bl B : Nat) (hB : w.heap.size ≤ B) : OwnFrom B (Gath w mo Bl) := fun s A A' row hs hg hr => by
  obtain ⟨⟨g, cap, hb, hl⟩, hm, hbe, hle⟩ := hs
  have hr' : ∀ r, row = some r → ∃ o : Obj, A.heap[r]? = some o ∧ o.isCells = false := fun r e => (hr r e).2
  exact ⟨⟨g, cap, hb.kept hg hr', hl.kept hg hr'⟩, hm.kept hg hr', hbe.grown hg hbe.size (fun k e => Nat.le_trans hB (hr k e).1), hle⟩
/-- .. where it is left ahead of its end. -/
def GathX (w : World) (mo Bl : Nat) (c : Code) (pre : List Int) (W : World) : Prop := c = .exit 0 ∧ ∃ ini x, pre = ini ++ [x] ∧ ini.length = mo ∧ Gath w mo Bl ini W
theorem gathX_own (w : World) (mo Bl B : Nat) (hB : w.heap.size ≤ B) (c : Code) : OwnFrom B (GathX w mo Bl c) := fun s A A' row hs hg hr => by
  obtain ⟨hc, ini, x, he, hl, hG⟩ := hs
  exact ⟨hc, ini, x, he, hl, gath_own w mo Bl B hB ini A A' row hG hg hr⟩

set_option maxRecDepth 100000 in
set_option maxHeartbeats 2000000 in
theorem rising_calls {d0 d1 d2 m : Int} (hm : mayD d0 d1 d2) (hn : 0 ≤ m ∧ m < d0 * d1 * d2) (k : Fin 3) (mo : Nat) (hmo : mo ≤ 16) (Bd Ba Bm : Nat) (w : World)
    (hd : Bd < w.heap.size) (ha : Ba < w.heap.size) (hmm : Bm < w.heap.size) (bd : Blk w Bd 23 #[I d0, I d1, I d2]) (ba : Blk w Ba 3 #[I (axI k)]) (bm : Blk w Bm 3 #[I m]) :
    Calls Tryz.prog 145 #[.func (.func 152) #[] #[.pointer (some ⟨Bd, 0, none⟩), .pointer (some ⟨Ba, 0, none⟩), .pointer (some ⟨Bm, 0, none⟩)], I mo] w fun e W' =>
      ∃ v, e = .returned v ∧ Lst W' w.heap.size v (((outW d0 d1 d2 m k).take mo).mergeSort fun x y => decide (x ≤ y)) ∧ Below w.heap.size w W' := by
  refine (callsIn_wide (n := 3)).1 ?_
  refine callsIn_of_wp_marks Tryz.func145 rfl trivial ?_ rfl
  simp only [Tryz.ntmps145, List.size_toArray, List.length_cons, List.length_nil, Nat.reduceAdd, Nat.reduceSub, Array.replicate_succ, Array.replicate_zero, List.push_toArray, List.append_toArray, List.nil_append, List.cons_append]
  gi_wp2_with (gi_at_make; refine wpListIn_mk (base := (w.alloc (.cells #[I mo] 3)).heap.size) rfl _ _ rfl (mo : Int) rfl rfl (by omega) (by omega) (Nat.le_refl _) ?_; intro cap1 w1 hL1 hT1)
  have hz : w.heap.size + 1 < w1.heap.size := by have := hL1.lt.1; simpa using this
  have hB1 : Below w.heap.size w w1 := then_below ((Below.refl _ w).alloc (Nat.le_refl _) _) hT1
  have bq : Blk w1 w.heap.size 3 #[I mo] := (Blk.new w 3 #[I mo]).later hT1
  have bl := Blk.new w1 158 #[.slice (some ⟨w.heap.size + 1, 0, none⟩) 0 cap1]
  have hG0 : Gath w mo w1.heap.size [] (w1.alloc (.cells #[.slice (some ⟨w.heap.size + 1, 0, none⟩) 0 cap1] 158)) :=
    ⟨⟨w.heap.size + 1, cap1, bl, by have := hL1.alloc (.cells #[.slice (some ⟨w.heap.size + 1, 0, none⟩) 0 cap1] 158); simp at this; exact this⟩, bq.alloc _, then_alloc hB1 _, Nat.zero_le _⟩
  have hBW := hG0.below
  generalize w1.heap.size = Bl at *
  have hBl : Bl < (w1.alloc (.cells #[.slice (some ⟨w.heap.size + 1, 0, none⟩) 0 cap1] 158)).heap.size := bl.lt
  generalize w1.alloc (.cells #[.slice (some ⟨w.heap.size + 1, 0, none⟩) 0 cap1] 158) = W0 at *
  clear hT1 hL1 hB1 bq bl
  refine wpIn_rangeFunc_ownF rfl (by omega) (gf := 152) (lb := #[.pointer (some ⟨Bd, 0, none⟩), .pointer (some ⟨Ba, 0, none⟩), .pointer (some ⟨Bm, 0, none⟩)]) rfl trivial (enters_of Tryz.func152 (by kernel_rfl) rfl)
    (line_stops hm hn k (3 - 1) (by omega) Bd Ba Bm w.heap.size W0 hd ha hmm hBW.size (bd.below hBW hd) (ba.below hBW ha) (bm.below hBW hmm)) belowK_t (belowK_b hBW.size) (Below.refl _ _) (fun _ => rfl)
    (Gath w mo Bl) (GathX w mo Bl) (gath_own w mo Bl _ hBW.size) (gathX_own w mo Bl _ hBW.size) hG0
    (fun x => { tmps := #[.func (.func 152) #[] #[.pointer (some ⟨Bd, 0, none⟩), .pointer (some ⟨Ba, 0, none⟩), .pointer (some ⟨Bm, 0, none⟩)], I mo, undef, .pointer (some ⟨w.heap.size, 0, none⟩), .slice none 0 0, .pointer (some ⟨Bl, 0, none⟩), I x, I mo, .slice (some ⟨w.heap.size + 1, 0, none⟩) 0 cap1, .func (.func 152) #[] #[.pointer (some ⟨Bd, 0, none⟩), .pointer (some ⟨Ba, 0, none⟩), .pointer (some ⟨Bm, 0, none⟩)], I x, undef, undef, undef, undef, undef, undef, undef, undef, undef, undef, undef], defers := [] }) ?assign ?body ?done ?stop
  case assign =>
    intro l x W K hK
    gi_wp2
    exact hK
  case body =>
    rintro l pre x W ⟨⟨g, cap, hbl, hL⟩, hq, hB, hle⟩ _
    have c0 := hbl.cell 0
    have f0 := hbl.frozen 0
    have c1 := hq.cell 0
    simp at c0 c1
    have hne := hL.ne hbl (by decide)
    by_cases he : pre.length = mo
    · have HE : Hid (pre.length = mo) := he
      have ht : ((pre.length : Int) == (mo : Int)) = true := by simp [he]
      clear he
      gi_wp2
      exact ⟨KeepsOthers.refl _, rfl, pre, x, rfl, HE.out, ⟨⟨g, cap, hbl, hL⟩, hq, hB, hle⟩⟩
    · have HE : Hid (pre.length ≠ mo) := he
      have ht : ((pre.length : Int) == (mo : Int)) = false := by simp; omega
      clear he
      gi_wp2_with (gi_at_builtin; refine wpListIn_app rfl _ _ rfl rfl rfl hL (by omega) (Nat.succ_le_of_lt hq.lt) ?_; intro g2 cap2 w2 hL2 hB2 hg2; have hbl2 := hbl.grown hg2 hne; have c2 := hbl2.cell 0; have f2 := hbl2.frozen 0; simp at c2)
      have hg2' : W.grownBy w2 (some g) := hg2
      have hne2 := hL2.ne hbl2 (by decide)
      have e1 : (pre ++ [x]).length = pre.length + 1 := by simp
      have hlt : pre.length < mo := by have := HE.out; omega
      refine ⟨(keeps_grown hL hg2').trans (KeepsOthers.setCell _ _ _), (hB2.mono (by omega)).setCell (p := ⟨Bl, 0, none⟩) (by show _ ≤ Bl; omega) _, ⟨⟨g2, cap2, ?_, ?_⟩, ?_, ?_, by omega⟩⟩
      · rw [e1]; exact hbl2.set 0 _
      · rw [e1]; exact hL2.set hne2 0 _
      · exact (hq.below hB2 (by omega)).other 0 _ (by omega)
      · exact (hB.trans (hB2.mono (by omega))).setCell (p := ⟨Bl, 0, none⟩) (by show _ ≤ Bl; omega) _
  case done =>
    rintro D xs W hD hxs ⟨⟨g, cap, hbl, hL⟩, hq, hB, hle⟩ hK
    have hD' : w.heap.size ≤ D := Nat.le_trans hBW.size hD
    have HT : Hid (xs = (outW d0 d1 d2 m k).take mo) := by show _ = _; rw [← hxs, List.take_of_length_le hle]
    clear hxs
    have hbl' := hbl.cell 0
    simp at hbl'
    have hne := hL.ne hbl (by decide)
    gi_wp2_with fail
    refine ⟨trivial, (callsIn_wide.2 (sort_calls W hL (by intro e; cases e) (by omega))).mono ?_⟩
    rintro e w2 ⟨rfl, hL2, hB2, hg2⟩
    have hg2' : W.grownBy w2 (some g) := hg2
    have hbl2 := (hbl.grown hg2' hne).cell 0
    simp at hbl2
    have hK2 := (keeps_grown hL hg2').same D _ hK rfl
    have hBe : Below w.heap.size w w2 := hB.trans (hB2.mono (by omega))
    gi_wp2
    refine ⟨by simp, .inl ⟨_, _, rfl, run_takeDeferred hK2, ?_⟩⟩
    have hr' : ∀ r, some D = some r → ∃ o : Obj, w2.heap[r]? = some o ∧ o.isCells = false := fun r e => by cases e; exact ⟨_, hK2, rfl⟩
    refine ⟨_, results_tmp rfl _ _ _, _, rfl, ?_, below_put _ hBe (by omega) hK2⟩
    rw [← HT.out]
    exact (hL2.kept (grownBy_putObj' w2 D _) hr').weak (by omega)
  case stop =>
    rintro D c pre W hD hpre ⟨rfl, ini, x, hpe, hin, ⟨⟨g, cap, hbl, hL⟩, hq, hB, hle⟩⟩ hK
    have hD' : w.heap.size ≤ D := Nat.le_trans hBW.size hD
    have HT : Hid (ini = (outW d0 d1 d2 m k).take mo) := by
      have h1 : ini <+: outW d0 d1 d2 m k := (List.prefix_append ini [x]).trans (hpe ▸ hpre)
      have h2 := List.prefix_iff_eq_take.1 h1
      show _ = _
      rw [hin] at h2
      exact h2
    clear hpre hpe hin
    have hbl' := hbl.cell 0
    simp at hbl'
    have hne := hL.ne hbl (by decide)
    gi_wp2_with fail
    refine ⟨trivial, (callsIn_wide.2 (sort_calls W hL (by intro e; cases e) (by omega))).mono ?_⟩
    rintro e w2 ⟨rfl, hL2, hB2, hg2⟩
    have hg2' : W.grownBy w2 (some g) := hg2
    have hbl2 := (hbl.grown hg2' hne).cell 0
    simp at hbl2
    have hK2 := (keeps_grown hL hg2').same D _ hK rfl
    have hBe : Below w.heap.size w w2 := hB.trans (hB2.mono (by omega))
    gi_wp2
    refine ⟨by simp, .inl ⟨_, _, rfl, run_takeDeferred hK2, ?_⟩⟩
    have hr' : ∀ r, some D = some r → ∃ o : Obj, w2.heap[r]? = some o ∧ o.isCells = false := fun r e => by cases e; exact ⟨_, hK2, rfl⟩
    refine ⟨_, results_tmp rfl _ _ _, _, rfl, ?_, below_put _ hBe (by omega) hK2⟩
    rw [← HT.out]
    exact (hL2.kept (grownBy_putObj' w2 D _) hr').weak (by omega)

end Go.Proofs.YtlahfffgmfjpaaaGreatDoor

/-
  Plain lists: what wire.line hands out, sorted, are the cables of those midplanes, rising. No program is named here.
-/
namespace Go.Proofs.YtlahfffgmfjpaaaGreatDoor
open Go.RowKit

theorem seqW_take (d0 d1 d2 m : Int) (k : Fin 3) {n n' : Nat} (h : n ≤ n') : (seqW d0 d1 d2 m k n').take n = seqW d0 d1 d2 m k n := by
  have := List.prefix_iff_eq_take.1 (seqW_pre d0 d1 d2 m k h)
  rw [seqW_len] at this
  exact this.symm

theorem sort_rise {l l' : List Int} (h : l.Perm l') (h' : l'.Pairwise (· < ·)) : (l.mergeSort fun x y => decide (x ≤ y)) = l' := by
  have tr : ∀ a b c : Int, decide (a ≤ b) = true → decide (b ≤ c) = true → decide (a ≤ c) = true := fun a b c h1 h2 => by simp only [decide_eq_true_eq] at *; omega
  have to : ∀ a b : Int, (decide (a ≤ b) || decide (b ≤ a)) = true := fun a b => by simp only [Bool.or_eq_true, decide_eq_true_eq]; omega
  refine List.Perm.eq_of_pairwise (le := fun a b : Int => decide (a ≤ b) = true) (fun a b _ _ h1 h2 => ?_) (List.pairwise_mergeSort tr to l) (h'.imp fun hab => ?_) ((List.mergeSort_perm l _).trans h)
  · simp only [decide_eq_true_eq] at h1 h2; omega
  · simp only [decide_eq_true_eq]; omega

theorem seq_perm {d0 d1 d2 m : Int} (h : mayD d0 d1 d2) (hm : 0 ≤ m ∧ m < d0 * d1 * d2) (k : Fin 3) {mo : Nat} (hk : (mo : Int) ≤ dimAt d0 d1 d2 k) (h1 : 1 < dimAt d0 d1 d2 k) : (seqW d0 d1 d2 m k mo).Perm (cablesW d0 d1 d2 m k mo) := by
  have hn1 : (seqW d0 d1 d2 m k mo).Nodup := by
    refine List.pairwise_map.2 ((List.pairwise_lt_range (n := mo)).imp_of_mem fun {a b} ha hb hab e => ?_)
    have ha' := List.mem_range.1 ha
    have hb' := List.mem_range.1 hb
    have := on_inj h hm k (a := (a : Int)) (b := (b : Int)) (by omega) (by omega) (cab_inj e)
    omega
  have hn2 : (cablesW d0 d1 d2 m k mo).Nodup := (cables_rise d0 d1 d2 m k mo).imp fun hab e => by omega
  refine (List.perm_ext_iff_of_nodup hn1 hn2).2 fun x => ?_
  rw [cables_mem]
  constructor
  · intro hx
    obtain ⟨i, hi, rfl⟩ := List.mem_map.1 hx
    have hi' := List.mem_range.1 hi
    have hb := on_node h hm k (i : Int)
    refine ⟨h1, (onD d0 d1 d2 m k (i : Int)).toNat, nodes_mem.2 ⟨by omega, i, hi', by omega⟩, ?_⟩
    rw [Int.toNat_of_nonneg hb.1]
  · rintro ⟨_, o, ho, rfl⟩
    obtain ⟨_, i, hi, e⟩ := nodes_mem.1 ho
    exact List.mem_map.2 ⟨i, List.mem_range.2 hi, by rw [e]⟩

/-- What is handed out, at most so many, sorted. -/
theorem sort_out {d0 d1 d2 m : Int} (h : mayD d0 d1 d2) (hm : 0 ≤ m ∧ m < d0 * d1 * d2) (k : Fin 3) {mo : Nat} (hk : (mo : Int) ≤ dimAt d0 d1 d2 k) :
    (((outW d0 d1 d2 m k).take mo).mergeSort fun x y => decide (x ≤ y)) = cablesW d0 d1 d2 m k mo := by
  unfold outW
  split
  · rename_i h1
    rw [seqW_take _ _ _ _ _ (by omega)]
    exact sort_rise (seq_perm h hm k hk h1) (cables_rise d0 d1 d2 m k mo)
  · rename_i h1
    unfold cablesW
    rw [if_neg h1]
    simp

end Go.Proofs.YtlahfffgmfjpaaaGreatDoor

/-
  A statement whose order the language leaves open and whose callees make memory: each operation keeps a word of its own, which lasts in every later world; so, in whatever order, at the end all words hold.
-/
namespace Go.Proofs.YtlahfffgmfjpaaaGreatDoor
open Go Go.RowKit Go.Shelf

section
variable {F : Fence} {n : Nat} {P : Program}

/-- How many are not listed yet. -/
theorem count_set : ∀ (l : List Bool) (i : Nat), l[i]? = some false → (l.set i true).count false + 1 = l.count false
  | [], _, h => by simp at h
  | b :: l, 0, h => by simp at h; subst h; simp
  | b :: l, i + 1, h => by
    simp at h
    have := count_set l i h
    simp [List.count_cons]
    omega

def dstOf (l : List Oper) (i : Nat) : Nat := match l[i]? with | some o => o.dst.getD 0 | none => 0
/-- Each operation writes a slot of its own, below number m; none is guarded; none defers. -/
def soloB (l : List Oper) (m : Nat) : Bool := (l.all fun o => o.guard.isNone && o.dst.isSome) && ((List.range l.length).all fun i => decide (dstOf l i < m) && (List.range l.length).all fun j => i == j || dstOf l i != dstOf l j) && noDefer l.toArray && beginB l l.length

/-- The frame a holds, outside the slots that the region writes, what a0 does. -/
structure Like (l : List Oper) (a0 a : Act) : Prop where
  size : a.tmps.size = a0.tmps.size
  defers : a.defers = a0.defers
  out : ∀ t, (∀ i, i < l.length → dstOf l i ≠ t) → a.tmps[t]? = a0.tmps[t]?

abbrev slot (l : List Oper) (a : Act) (i : Nat) : Value := a.tmps.getD (dstOf l i) undef

/-- What an operation comes to: a value, or a call. -/
def Comes (P : Program) (o : Oper) (a : Act) (w : World) (R : Value → World → Prop) : Prop :=
  (∃ v, (execOp a.eval o).run P w = .ok (.value v) w ∧ R v w) ∨ (∃ f args, (execOp a.eval o).run P w = .ok (.enter f args) w ∧ Calls P f args w fun e w' => ∃ v, e = .returned v ∧ Below w.heap.size w w' ∧ R v w')

theorem put_at {a : Act} {d : Nat} {v : Value} (h : d < a.tmps.size) : (a.put (some d) v).tmps.getD d undef = v := by
  simp [Act.put, Array.getD, h]
theorem put_ne {a : Act} {d t : Nat} {v : Value} (h : d ≠ t) : (a.put (some d) v).tmps[t]? = a.tmps[t]? := by
  simp [Act.put, Array.getElem?_setIfInBounds_ne h]
theorem getD_ne {a : Act} {d t : Nat} {v : Value} (h : d ≠ t) : (a.put (some d) v).tmps.getD t undef = a.tmps.getD t undef := by
  rw [Array.getD_eq_getD_getElem?, Array.getD_eq_getD_getElem?, put_ne h]

theorem solo_at {l : List Oper} {m i : Nat} {o : Oper} (h : soloB l m = true) (hi : l[i]? = some o) : o.guard = none ∧ o.dst = some (dstOf l i) ∧ dstOf l i < m ∧ ∀ j, j < l.length → j ≠ i → dstOf l i ≠ dstOf l j := by
  simp only [soloB, Bool.and_eq_true] at h
  obtain ⟨⟨⟨h1, h2⟩, _⟩, _⟩ := h
  obtain ⟨hlt, he⟩ := List.getElem?_eq_some_iff.1 hi
  have k1 := List.all_eq_true.1 h1 o (he ▸ List.getElem_mem hlt)
  simp only [Bool.and_eq_true, Option.isNone_iff_eq_none] at k1
  have k2 := List.all_eq_true.1 h2 i (List.mem_range.2 hlt)
  simp only [Bool.and_eq_true, decide_eq_true_eq] at k2
  refine ⟨k1.1, ?_, k2.1, fun j hj hne => ?_⟩
  · obtain ⟨d, hd⟩ := Option.isSome_iff_exists.1 k1.2
    simp [dstOf, hi, hd]
  · have := List.all_eq_true.1 k2.2 j (List.mem_range.2 hj)
    simp only [Bool.or_eq_true, beq_iff_eq, bne_iff_ne] at this
    rcases this with e | e
    · exact absurd e.symm hne
    · exact e

variable {l : List Oper} {a0 : Act} {w0 : World} {Q : Exit → Act → World → Prop} {S : Nat → Value → World → Prop}

theorem any_loud (hF : Loose F P) (hB : soloB l a0.tmps.size = true)
    (hS : ∀ i v w w', S i v w → Below w.heap.size w w' → S i v w')
    (hop : ∀ (i : Nat) (o : Oper), l[i]? = some o → ∀ (a : Act) (w : World), Below w0.heap.size w0 w → Like l a0 a → (∀ e ∈ o.after, Region.binds .any e = true → S e.on (slot l a e.on) w) → Comes P o a w (S i))
    (hend : ∀ (a : Act) (w : World), Below w0.heap.size w0 w → Like l a0 a → (∀ i, i < l.length → S i (slot l a i) w) → Q .normal a w) :
    ∀ (f : Nat) (L : Array Bool) (a : Act) (w : World), L.size = l.length → L.toList.count false ≤ f → Below w0.heap.size w0 w → Like l a0 a → (∀ i, L.getD i false = true → S i (slot l a i) w) → wpAnyIn F n P .any l.toArray Q f L a w := by
  have hbeg : beginB l l.length = true := (Bool.and_eq_true_iff.1 hB).2
  have hnd : noDefer l.toArray = true := (Bool.and_eq_true_iff.1 (Bool.and_eq_true_iff.1 hB).1).2
  have htake : l.take l.length = l := List.take_length
  have fin : ∀ (L : Array Bool) (a : Act) (w : World), L.size = l.length → Region.ready .any l.toArray L = [] → Below w0.heap.size w0 w → Like l a0 a → (∀ i, L.getD i false = true → S i (slot l a i) w) → Q .normal a w := by
    intro L a w hs hr hT hL hA
    have hfull := full_of_none (l := l) (m := l.length) hbeg hs (by rw [htake]; exact hr)
    refine hend a w hT hL fun i hi => hA i ?_
    rw [hfull]
    simp [Array.getD, hi]
  intro f
  induction f with
  | zero =>
    intro L a w hs hc hT hL hA
    have hall : Region.ready .any l.toArray L = [] := by
      apply List.eq_nil_iff_forall_not_mem.2
      intro i hi
      obtain ⟨h1, _⟩ := mem_ready.1 hi
      have h0 : L.toList.count false = 0 := by omega
      rw [List.count_eq_zero] at h0
      refine h0 ?_
      by_cases hlt : i < L.size
      · rw [Array.getD, dif_pos hlt] at h1
        rw [← h1]
        exact Array.getElem_mem_toList hlt
      · rw [Array.getD, dif_neg hlt] at h1; cases h1
    exact ⟨hall, fin L a w hs hall hT hL hA⟩
  | succ f ih =>
    intro L a w hs hc hT hL hA
    refine ⟨fun hr => fin L a w hs hr hT hL hA, fun i hi => ?_⟩
    obtain ⟨h1, o, ho, hall⟩ := mem_ready.1 hi
    have hol : l[i]? = some o := by simpa using ho
    have hil : i < l.length := (List.getElem?_eq_some_iff.1 hol).1
    obtain ⟨hg, hd, hlt, hne⟩ := solo_at hB hol
    have hcome := hop i o hol a w hT hL (fun e he hb => hA e.on (hall e he hb))
    have hnot : L.toList[i]? = some false := by
      have hlt' : i < L.size := by omega
      rw [Array.getD, dif_pos hlt'] at h1
      rw [Array.getElem?_toList, Array.getElem?_eq_getElem hlt']
      exact congrArg some h1
    have hnext : ∀ (v : Value) (w' : World), Below w.heap.size w w' → S i v w' → wpAnyIn F n P .any l.toArray Q f (L.setIfInBounds i true) (a.put o.dst v) w' := by
      intro v w' hB' hv
      rw [hd]
      refine ih _ _ w' (by simpa using hs) ?_ (then_below hT hB') ⟨?_, ?_, ?_⟩ ?_
      · have := count_set L.toList i hnot
        rw [Array.toList_setIfInBounds]
        omega
      · simp [Act.put]; exact hL.size
      · simp [Act.put]; exact hL.defers
      · intro t ht
        rw [put_ne (ht i hil)]
        exact hL.out t ht
      · intro j hj
        by_cases hij : j = i
        · subst hij
          show S j ((a.put (some (dstOf l j)) v).tmps.getD (dstOf l j) undef) w'
          rw [put_at (by rw [hL.size]; exact hlt)]
          exact hv
        · have hjl : L.getD j false = true := by
            rw [Array.getD_eq_getD_getElem?, Array.getElem?_setIfInBounds_ne (Ne.symm hij), ← Array.getD_eq_getD_getElem?] at hj
            exact hj
          have hjlt : j < l.length := by
            rcases Nat.lt_or_ge j L.size with h | h
            · omega
            · rw [Array.getD, dif_neg (by omega)] at hjl; cases hjl
          show S j ((a.put (some (dstOf l i)) v).tmps.getD (dstOf l j) undef) w'
          rw [getD_ne (hne j hjlt hij)]
          exact hS _ _ _ _ (hA j hjl) hB'
    have hfn : ∀ f, o.about P w a.eval = some f → F.fn f := fun f _ => hF.fn f
    simp only [wpOpIn, ho, Region.wanted, hg, if_true]
    refine ⟨hfn, ?_⟩
    rw [Oper.semAt_eq _ _ _ (noDefer_spec hnd ho)]
    rcases hcome with ⟨v, e, hv⟩ | ⟨g, args, e, hc'⟩
    · rw [e]; exact hnext v w (Below.refl _ _) hv
    · rw [e]
      refine ⟨fun hx => (hF.depth hx).elim, hF.calls _ _ _ _ _ (hc'.mono ?_)⟩
      rintro x w' ⟨v, rfl, hB', hv⟩
      exact hnext v w' hB' hv

/-- All slots of the region, put one behind the other in the text's order. -/
theorem like_puts {a : Act} (hL : Like l a0 a) : a = (List.range l.length).foldl (fun b i => b.put (some (dstOf l i)) (slot l a i)) a0 := by
  have key : ∀ k, k ≤ l.length → ∀ b, b = (List.range k).foldl (fun b i => b.put (some (dstOf l i)) (slot l a i)) a0 → b.tmps.size = a0.tmps.size ∧ b.defers = a0.defers ∧ ∀ t, t < a0.tmps.size → b.tmps[t]? = if (∃ i, i < k ∧ dstOf l i = t) then a.tmps[t]? else a0.tmps[t]? := by
    intro k
    induction k with
    | zero => rintro _ b rfl; simp
    | succ k ih =>
      rintro hk b rfl
      obtain ⟨h1, h2, h3⟩ := ih (by omega) _ rfl
      rw [List.range_succ, List.foldl_append]
      simp only [List.foldl_cons, List.foldl_nil]
      generalize (List.range k).foldl (fun b i => b.put (some (dstOf l i)) (slot l a i)) a0 = b at h1 h2 h3
      refine ⟨by simp [Act.put, h1], by simp [Act.put, h2], fun t ht => ?_⟩
      by_cases hd : dstOf l k = t
      · rw [if_pos ⟨k, by omega, hd⟩]
        subst hd
        have hlt : dstOf l k < b.tmps.size := by omega
        have hlt2 : dstOf l k < a.tmps.size := by rw [hL.size]; omega
        simp [Act.put, slot, Array.getD, hlt, hlt2]
      · rw [put_ne hd, h3 t ht]
        by_cases he : ∃ i, i < k ∧ dstOf l i = t
        · obtain ⟨i, hi, hit⟩ := he
          rw [if_pos ⟨i, hi, hit⟩, if_pos ⟨i, by omega, hit⟩]
        · rw [if_neg he, if_neg]
          rintro ⟨i, hi, hit⟩
          rcases Nat.lt_succ_iff_lt_or_eq.1 hi with h | rfl
          · exact he ⟨i, h, hit⟩
          · exact hd hit
  obtain ⟨h1, h2, h3⟩ := key l.length (Nat.le_refl _) _ rfl
  generalize (List.range l.length).foldl (fun b i => b.put (some (dstOf l i)) (slot l a i)) a0 = b at h1 h2 h3
  have ht : a.tmps = b.tmps := by
    apply Array.ext_getElem?
    intro t
    by_cases hlt : t < a0.tmps.size
    · rw [h3 t hlt]
      by_cases he : ∃ i, i < l.length ∧ dstOf l i = t
      · rw [if_pos he]
      · rw [if_neg he]
        exact hL.out t fun i hi hit => he ⟨i, hi, hit⟩
    · rw [Array.getElem?_eq_none (by rw [hL.size]; omega), Array.getElem?_eq_none (by omega)]
  have hd : a.defers = b.defers := by rw [hL.defers, h2]
  cases a; cases b; simp_all

/-- In whatever order: each operation's word holds at the end. -/
theorem wp_region_loud {id : Nat} (S : Nat → Value → World → Prop) (hm : P.follows .mixedOrders = true) (hB : soloB l a0.tmps.size = true)
    (hS : ∀ i v w w', S i v w → Below w.heap.size w w' → S i v w')
    (hop : ∀ (i : Nat) (o : Oper), l[i]? = some o → ∀ (a : Act) (w : World), Below w0.heap.size w0 w → Like l a0 a → (∀ e ∈ o.after, Region.binds .any e = true → S e.on (slot l a e.on) w) → Comes P o a w (S i))
    (hend : ∀ (v : Nat → Value) (w : World), Below w0.heap.size w0 w → (∀ i, i < l.length → S i (v i) w) → Q .normal ((List.range l.length).foldl (fun b i => b.put (some (dstOf l i)) (v i)) a0) w) :
    (Code.region id l.toArray true).wp P Q a0 w0 := by
  refine (wpIn_wide (n := 0)).1 (wpIn_region_any hm ?_)
  refine any_loud (loose_wide P) hB hS hop (fun a w hT hL hA => ?_) _ _ _ _ (by simp) (by simp) ((Below.refl _ w0).drew) ⟨rfl, rfl, fun _ _ => rfl⟩ (fun i hi => ?_)
  · rw [like_puts hL]
    exact hend (slot l a) w hT hA
  · exfalso
    rw [Array.getD_eq_getD_getElem?] at hi
    simp [Array.getElem?_replicate] at hi
    split at hi <;> simp at hi
end
end Go.Proofs.YtlahfffgmfjpaaaGreatDoor

/-
  wire.Line, wire.Run: the cables of a line, and those that a run takes, rising, in new memory; for every input.
-/
namespace Go.Proofs.YtlahfffgmfjpaaaGreatDoor
open Go Go.RowKit Go.Shelf

attribute [local go_sem] Oper.semAt_some ext_const

/-- A line that is handed out, wherever its three variables lie. -/
def IsLine (d0 d1 d2 axis m : Int) (v : Value) (w : World) : Prop :=
  ∃ B : Nat, v = .func (.func 152) #[] #[.pointer (some ⟨B, 0, none⟩), .pointer (some ⟨B + 1, 0, none⟩), .pointer (some ⟨B + 1 + 1, 0, none⟩)] ∧
    Blk w B 23 #[I d0, I d1, I d2] ∧ Blk w (B + 1) 3 #[I axis] ∧ Blk w (B + 1 + 1) 3 #[I m]
theorem IsLine.later {d0 d1 d2 axis m : Int} {v : Value} {w w' : World} (h : IsLine d0 d1 d2 axis m v w) (hB : Below w.heap.size w w') : IsLine d0 d1 d2 axis m v w' := by
  obtain ⟨B, e, h0, h1, h2⟩ := h
  exact ⟨B, e, h0.later hB, h1.later hB, h2.later hB⟩

theorem line_is (d0 d1 d2 axis m : Int) (w : World) :
    Calls Tryz.prog 146 #[A3 d0 d1 d2, I axis, I m] w fun e w' => ∃ v, e = .returned v ∧ Below w.heap.size w w' ∧ IsLine d0 d1 d2 axis m v w' := by
  refine (line_calls d0 d1 d2 axis m w).mono ?_
  rintro e w' ⟨rfl, rfl⟩
  refine ⟨_, rfl, (((Below.refl _ w).alloc (Nat.le_refl _) _).alloc (by simp) _).alloc (by simp; omega) _, w.heap.size, rfl, ((Blk.new w _ _).alloc _).alloc _, ?_, ?_⟩
  · have := (Blk.new (w.alloc (.cells #[I d0, I d1, I d2] 23)) 3 #[I axis]).alloc (.cells #[I m] 3)
    simpa using this
  · have := Blk.new ((w.alloc (.cells #[I d0, I d1, I d2] 23)).alloc (.cells #[I axis] 3)) 3 #[I m]
    simpa using this

/-- wire.rising over a line. -/
theorem rising_is {d0 d1 d2 m z : Int} (hm : mayD d0 d1 d2) (hn : 0 ≤ m ∧ m < d0 * d1 * d2) (k : Fin 3) (hz : 0 ≤ z ∧ z ≤ dimAt d0 d1 d2 k) {v : Value} (w : World) (hv : IsLine d0 d1 d2 (axI k) m v w) :
    Calls Tryz.prog 145 #[v, I z] w fun e W' => ∃ u, e = .returned u ∧ Lst W' w.heap.size u (cablesW d0 d1 d2 m k z.toNat) ∧ Below w.heap.size w W' := by
  obtain ⟨B, rfl, h0, h1, h2⟩ := hv
  obtain ⟨mo, rfl⟩ : ∃ mo : Nat, z = (mo : Int) := ⟨z.toNat, by omega⟩
  have hk := dimAt_ok hm k
  unfold okD at hk
  refine (rising_calls hm hn k mo (by omega) B (B + 1) (B + 1 + 1) w h0.lt h1.lt h2.lt h0 h1 h2).mono ?_
  rintro e W' ⟨u, rfl, hL, hB⟩
  rw [sort_out hm hn k (by omega)] at hL
  exact ⟨u, rfl, by rw [Int.toNat_natCast]; exact hL, hB⟩

/-- What each operation of wire.Line's last statement keeps. -/
def wordL (d0 d1 d2 m axis dim : Int) (Bn off base : Nat) (X : List Int) (i : Nat) (v : Value) (w : World) : Prop :=
  match i with
  | 0 => v = A3 d0 d1 d2
  | 1 => v = I axis
  | 2 => v = I m
  | 3 => IsLine d0 d1 d2 axis m v w
  | 4 => v = I axis
  | 5 => v = .pointer (some ⟨Bn, off, none⟩)
  | 6 => v = I dim
  | 7 => Lst w base v X
  | 8 => Lst w base v X
  | 9 => v = I 0
  | _ => False
end Go.Proofs.YtlahfffgmfjpaaaGreatDoor

/-
  wire.Run: the cables that a run takes, rising, in new memory; for every input.
-/
namespace Go.Proofs.YtlahfffgmfjpaaaGreatDoor
open Go Go.RowKit Go.Shelf

attribute [local go_sem] Oper.semAt_some ext_const

/-- From how many midplanes on the cables that a run takes go. -/
def mostW (dim long : Int) (torus : Bool) : Int := if torus = true ∧ 1 < long then dim else long - 1

set_option maxRecDepth 100000 in
set_option maxHeartbeats 4000000 in
theorem wrun_yes {d0 d1 d2 axis m long : Int} (torus : Bool) (w : World) (hm : mayD d0 d1 d2) (hn : 0 ≤ m ∧ m < d0 * d1 * d2) {k : Fin 3} (hk : axis = axI k) (hl : 1 ≤ long ∧ long ≤ dimAt d0 d1 d2 k) :
    Calls Tryz.prog 141 #[A3 d0 d1 d2, I axis, I m, I long, .bool torus] w fun e W' => ∃ v, e = .returned (.tuple #[v, I 0]) ∧ Lst W' w.heap.size v (cablesW d0 d1 d2 m k (mostW (dimAt d0 d1 d2 k) long torus).toNat) ∧ Below w.heap.size w W' := by
  subst hk
  have hok := dimAt_ok hm k
  unfold okD at hok
  have HC : Hid (∀ w, Calls Tryz.prog 144 #[A3 d0 d1 d2, I (axI k), I m] w fun x W' => x = .returned (I 0) ∧ Below w.heap.size w W') := fun w => checkl_yes w hm hn rfl
  have HL : Hid (∀ w, Calls Tryz.prog 146 #[A3 d0 d1 d2, I (axI k), I m] w fun e w' => ∃ v, e = .returned v ∧ Below w.heap.size w w' ∧ IsLine d0 d1 d2 (axI k) m v w') := fun w => line_is d0 d1 d2 (axI k) m w
  have hmb : 0 ≤ mostW (dimAt d0 d1 d2 k) long torus ∧ mostW (dimAt d0 d1 d2 k) long torus ≤ dimAt d0 d1 d2 k := by unfold mostW; split <;> omega
  have HR : Hid (∀ v w, IsLine d0 d1 d2 (axI k) m v w → Calls Tryz.prog 145 #[v, I (mostW (dimAt d0 d1 d2 k) long torus)] w fun e W' => ∃ u, e = .returned u ∧ Lst W' w.heap.size u (cablesW d0 d1 d2 m k (mostW (dimAt d0 d1 d2 k) long torus).toNat) ∧ Below w.heap.size w W') := fun v w hv => rising_is hm hn k hmb w hv
  have hcase : (torus = true ∧ 1 < long ∧ mostW (dimAt d0 d1 d2 k) long torus = dimAt d0 d1 d2 k) ∨ (torus = true ∧ long = 1 ∧ mostW (dimAt d0 d1 d2 k) long torus = 0) ∨ (torus = false ∧ mostW (dimAt d0 d1 d2 k) long torus = long - 1) := by
    unfold mostW
    cases torus
    · exact .inr (.inr ⟨rfl, by simp⟩)
    · by_cases h : 1 < long
      · exact .inl ⟨rfl, h, by simp [h]⟩
      · exact .inr (.inl ⟨rfl, by omega, by simp [h]; omega⟩)
  generalize mostW (dimAt d0 d1 d2 k) long torus = z at *
  generalize cablesW d0 d1 d2 m k z.toNat = X at *
  clear hn hmb
  obtain ⟨hl1, hl2⟩ := hl
  rcases hcase with ⟨rfl, h1, rfl⟩ | ⟨rfl, rfl, rfl⟩ | ⟨rfl, rfl⟩
  all_goals rcases fin3 k with rfl | rfl | rfl
  all_goals
    simp only [axI, dimAt] at *
    go_enter Tryz.func141, Tryz.ntmps141
    go_wp2_with fail
    refine (HC.out _).mono ?_
    rintro x w1 ⟨rfl, hB⟩
    have hB1 := then_below ((Below.refl _ w).alloc (Nat.le_refl _) (.cells #[I d0, I d1, I d2] 23)) hB
    have g0 := (Blk.new w 23 #[I d0, I d1, I d2]).later hB
    have c0 := g0.cell 0
    have c1 := g0.cell 1
    have c2 := g0.cell 2
    simp at c0 c1 c2
    go_wp2_with fail
    refine (HL.out _).mono ?_
    rintro x w2 ⟨v, rfl, hB2, hv⟩
    go_wp2_with fail
    refine (HR.out _ _ hv).mono ?_
    rintro x w3 ⟨u, rfl, hX, hB3⟩
    go_wp2
    go_ret2
    exact ⟨_, rfl, hX.weak (then_below hB1 hB2).size, then_below (then_below hB1 hB2) hB3⟩

end Go.Proofs.YtlahfffgmfjpaaaGreatDoor

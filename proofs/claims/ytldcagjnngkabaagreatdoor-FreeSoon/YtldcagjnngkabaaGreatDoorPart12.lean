/-
  Lists of calendars: as a walk reads them, wherever they lie (Yl); in memory that a call made (Yo): lengthened, made, written.
-/
import Derived.Test.YtldcagjnngkabaaGreatDoorPart7
import Derived.Test.YtldcagjnngkabaaGreatDoorPart11
import Derived.Test.YtldcagjnngkabaaGreatDoorPart1
import Derived.Test.YtldcagjnngkabaaGreatDoorProg
import Derived.Test.YtldcagjnngkabaaGreatDoorPart3
namespace Go.Proofs.YtldcagjnngkabaaGreatDoor
open Go Go.RowKit Go.Shelf

/-- The slice v reads as the calendars cs. -/
def Yl (W : World) (v : Value) (cs : List (List Slt)) : Prop :=
  ∃ ao cap, v = .slice ao cs.length cap ∧ ∀ k, k < cs.length → ∃ g off u, ao = some ⟨g, off, none⟩ ∧ g < W.heap.size ∧ W.cell? ⟨g, off + k, none⟩ = some u ∧ Ss W u (cs.getD k [])
theorem Yl.later {W W' : World} {v : Value} {cs : List (List Slt)} (h : Yl W v cs) (hb : Below W.heap.size W W') : Yl W' v cs := by
  obtain ⟨ao, cap, e, h⟩ := h
  refine ⟨ao, cap, e, fun k hk => ?_⟩
  obtain ⟨g, off, u, e, hg, hc, hs⟩ := h k hk
  exact ⟨g, off, u, e, Nat.lt_of_lt_of_le hg hb.size, (hb.cell (p := ⟨g, off + k, none⟩) hg).trans hc, hs.later hb⟩
theorem Yl.nil (W : World) : Yl W (.slice none 0 0) [] := ⟨none, 0, rfl, fun k hk => by simp at hk⟩
theorem Yl.form {W : World} {v : Value} {cs : List (List Slt)} (h : Yl W v cs) : ∃ ao cap, v = .slice ao cs.length cap ∧ Yl W (.slice ao cs.length cap) cs := by
  obtain ⟨ao, cap, e, r⟩ := h
  exact ⟨ao, cap, e, ao, cap, rfl, r⟩
/-- What a walk asks of a list that it reads. -/
theorem Yl.at {W : World} {ao : Option Addr} {n cap : Nat} {cs : List (List Slt)} (h : Yl W (.slice ao n cap) cs) {k : Nat} (hk : k < cs.length) :
    ∃ g off bo m c, ao = some ⟨g, off, none⟩ ∧ g < W.heap.size ∧ W.cell? ⟨g, off + k, none⟩ = some (.slice bo m c) ∧ m = (cs.getD k []).length ∧ Ss W (.slice bo m c) (cs.getD k []) := by
  obtain ⟨ao', cap', e, hv⟩ := h
  obtain ⟨g, off, u, hg, hlt, hc, hs⟩ := hv k hk
  rw [Value.slice.injEq] at e
  obtain ⟨bo, c, rfl, hs⟩ := hs.form
  exact ⟨g, off, bo, _, c, e.1.trans hg, hlt, hc, rfl, hs⟩

theorem Yl.get {W : World} {ao : Option Addr} {n cap : Nat} {cs : List (List Slt)} (h : Yl W (.slice ao n cap) cs) {k : Nat} (hk : k < cs.length) :
    ∃ g off bo m c, ao = some ⟨g, off, none⟩ ∧ g < W.heap.size ∧ W.cell? ⟨g, off + k, none⟩ = some (.slice bo m c) ∧ Ss W (.slice bo m c) (cs.getD k []) := by
  obtain ⟨g, off, bo, m, c, h1, h2, h3, _, h4⟩ := h.at hk
  exact ⟨g, off, bo, m, c, h1, h2, h3, h4⟩

/-- The slice v holds just the calendars cs, it and they in memory from number base on. -/
def Yo (W : World) (base : Nat) (v : Value) (cs : List (List Slt)) : Prop :=
  ∃ us : List Value, us.length = cs.length ∧ W.ownsRow base 79 1 v us.length us ∧ ∀ k, k < cs.length → So W base (us.getD k undef) (cs.getD k [])
theorem Yo.nil (W : World) (base : Nat) : Yo W base (.slice none 0 0) [] := ⟨[], rfl, World.ownsRow_nil _ _ _ _, fun k hk => by simp at hk⟩
theorem ownsRow_later {W W' : World} {base : Nat} {t : TypeId} {s n : Nat} {v : Value} {xs : List Value} (h : W.ownsRow base t s v n xs) (hb : Below W.heap.size W W') : W'.ownsRow base t s v n xs := by
  obtain ⟨h1, h2⟩ := h
  refine ⟨h1, ?_⟩
  rcases h2 with h2 | ⟨g, cap, cur, e, hg, hh, r⟩
  · exact .inl h2
  · exact .inr ⟨g, cap, cur, e, hg, (hb.block g (Array.getElem?_eq_some_iff.1 hh).1).trans hh, r⟩
theorem ownsRow_weak {W : World} {base base' : Nat} {t : TypeId} {s n : Nat} {v : Value} {xs : List Value} (h : W.ownsRow base t s v n xs) (hb : base' ≤ base) : W.ownsRow base' t s v n xs := by
  obtain ⟨h1, h2⟩ := h
  refine ⟨h1, ?_⟩
  rcases h2 with h2 | ⟨g, cap, cur, e, hg, r⟩
  · exact .inl h2
  · exact .inr ⟨g, cap, cur, e, Nat.le_trans hb hg, r⟩
theorem Yo.later {W W' : World} {base : Nat} {v : Value} {cs : List (List Slt)} (h : Yo W base v cs) (hb : Below W.heap.size W W') : Yo W' base v cs := by
  obtain ⟨us, e, h, hs⟩ := h
  exact ⟨us, e, ownsRow_later h hb, fun k hk => (hs k hk).later hb⟩
theorem Yo.weak {W : World} {base base' : Nat} {v : Value} {cs : List (List Slt)} (h : Yo W base v cs) (hb : base' ≤ base) : Yo W base' v cs := by
  obtain ⟨us, e, h, hs⟩ := h
  exact ⟨us, e, ownsRow_weak h hb, fun k hk => (hs k hk).weak hb⟩
theorem Yo.yl {W : World} {base : Nat} {v : Value} {cs : List (List Slt)} (h : Yo W base v cs) : Yl W v cs := by
  obtain ⟨us, e, ⟨h1, h2⟩, hs⟩ := h
  rcases h2 with ⟨rfl, hn⟩ | ⟨g, cap, cur, rfl, hg, hh, hc, hc2, hz, ht⟩
  · have : cs = [] := List.length_eq_zero_iff.1 (by omega)
    subst this
    exact Yl.nil W
  · refine ⟨_, cap, by rw [e], fun k hk => ⟨g, 0, us.getD k undef, rfl, (Array.getElem?_eq_some_iff.1 hh).1, ?_, (hs k hk).ss⟩⟩
    have hb : Blk W g 79 cur := hh
    rw [Nat.zero_add, hb.cell]
    have := congrArg (fun l => l[k]?) ht
    simp only [Nat.mul_one, List.getElem?_take_of_lt (show k < us.length by omega), Array.getElem?_toList] at this
    rw [this, List.getD_eq_getElem?_getD, List.getElem?_eq_getElem (by omega)]
    rfl

theorem info_c : (Tryz.prog.info? 79).map (fun i => (i.zero, i.size, i.bytes)) = some (some (.slice none 0 0), 1, 24) := by kernel_rfl

theorem So.slice {W : World} {base : Nat} {v : Value} {xs : List Slt} (h : So W base v xs) : ∃ ao n c, v = .slice ao n c := by
  obtain ⟨ao, cap, rfl, _⟩ := h.ss.form
  exact ⟨_, _, _, rfl⟩

/-- Slots stay where they lie, where a list of calendars is lengthened. -/
theorem So.grown {W W' : World} {base : Nat} {v : Value} {xs : List Slt} {row : Option Nat} (h : So W base v xs) (hg : W.grownBy W' row) (hrow : ∀ r, row = some r → ∃ cur, W.heap[r]? = some (.cells cur 79 (0, 0))) : So W' base v xs := by
  obtain ⟨h1, h2⟩ := h
  refine ⟨h1, ?_⟩
  rcases h2 with h2 | ⟨g, cap, cur, e, hb, hh, r⟩
  · exact .inl h2
  · refine .inr ⟨g, cap, cur, e, hb, (hg.block g (Array.getElem?_eq_some_iff.1 hh).1 ?_).trans hh, r⟩
    intro er
    obtain ⟨c2, h2⟩ := hrow g er.symm
    rw [hh] at h2
    simp at h2

/-- 'list = append(list, c)', the list and c a call's own. -/
theorem wpList_appY {ops : Array Oper} {rest : List Oper} {o : Oper} {a : Act} {Q : Exit → Act → World → Prop} {W : World} {base : Nat} {v x : Value} {cs : List (List Slt)} {c : List Slt} (hgd : o.guard = none) (s u : Operand)
    (ho : o.op = .call { callee := .builtin .append, args := #[s, u], argTypes := #[24, 24] }) (hs : a.eval s = v) {B : Nat} (hx : a.eval u = .slice (some ⟨B, 0, none⟩) 1 1) (hBW : B = W.heap.size)
    (hown : Yo W base v cs) (hc : So W base x c) (hl : cs.length ≤ 100000) (hb : base ≤ W.heap.size)
    (h : ∀ ao n cap w', Yo w' base (.slice ao n cap) (cs ++ [c]) → Below base W w' → wpList Tryz.prog ops Q rest (a.put o.dst (.slice ao n cap)) w') : wpList Tryz.prog ops Q (o :: rest) a (W.alloc (.cells #[x] 79)) := by
  subst hBW
  obtain ⟨i0, hi, hz0, hz1, hz2⟩ := info_parts info_c
  obtain ⟨us, eu, hown, hss⟩ := hown
  have hx1 : x.oneCell' = true := by obtain ⟨ao, n, c, rfl⟩ := hc.slice; rfl
  refine wpList_append_own_at (w := W.alloc (.cells #[x] 79)) hgd s u 24 ho base 79 i0 _ 1 24 Tryz.underlying24 hi hz0 hz1 hz2 rfl (by decide) v us.length _ hs (hown.alloc _) ⟨W.heap.size, 0, none⟩ 1 1 [x] hx rfl ?_ ?_ ?_ ?_ ?_ ?_
  · intro j w' hj
    have hB := (Blk.new W 79 #[x]).cell j
    rw [show (⟨W.heap.size, 0, none⟩ : Addr).add j = ⟨W.heap.size, j, none⟩ by by_cases h : j = 0 <;> simp [Addr.add, h], hB]
    simpa using hj
  · intro w' hw; simp at hw; rw [hw]; exact hx1
  · unfold maxLen; omega
  · omega
  · simp; omega
  · intro v' w1 hown' hgrow _ hloc
    have hgr := (World.grownBy_alloc W (.cells #[x] 79) v.ownBlock).trans hgrow
    have hrow : ∀ r, v.ownBlock = some r → ∃ cur, W.heap[r]? = some (.cells cur 79 (0, 0)) := by
      intro r hr
      obtain ⟨_, h2⟩ := hown
      rcases h2 with ⟨rfl, _⟩ | ⟨g, cap, cur, rfl, _, hh, _⟩
      · cases hr
      · simp [Value.ownBlock] at hr
        subst hr
        exact ⟨cur, hh⟩
    have hW : Yo w1 base v' (cs ++ [c]) := by
      refine ⟨us ++ [x], by simp [eu], by rw [List.length_append]; exact hown', fun k hk => ?_⟩
      rw [List.length_append, List.length_singleton] at hk
      by_cases hkl : k < cs.length
      · have := (hss k hkl).grown hgr hrow
        rw [List.getD_eq_getElem?_getD, List.getElem?_append_left (by omega), ← List.getD_eq_getElem?_getD, List.getD_eq_getElem?_getD (l := cs ++ [c]), List.getElem?_append_left hkl, ← List.getD_eq_getElem?_getD]
        exact this
      · obtain rfl : k = cs.length := by omega
        have := hc.grown hgr hrow
        rw [List.getD_eq_getElem?_getD, List.getElem?_append_right (by omega), List.getD_eq_getElem?_getD (l := cs ++ [c]), List.getElem?_append_right (by omega), eu]
        simpa using this
    obtain ⟨ao, cap, rfl, _⟩ := hW.yl.form
    exact h ao _ cap w1 hW ((Below.refl base W).grown hgr hb (fun k hk => (World.ownsRow.lt hown k hk).1))

theorem made_nil (n : Nat) : madeCells #[.slice none 0 0] n = (List.replicate n (Value.slice none 0 0)).toArray := by
  apply Array.ext
  · simp [madeCells]
  · intro i h1 h2
    simp only [madeCells, Array.getElem_map, Array.getElem_range]
    simp [Nat.mod_one]

/-- 'make([][]api.Slot, n)'. -/
theorem wpList_mkY {ops : Array Oper} {rest : List Oper} {o : Oper} {a : Act} {Q : Exit → Act → World → Prop} {W : World} (hgd : o.guard = none) (l c : Operand) (ho : o.op = Op.makeSlice 24 l c) (n : Nat)
    (hl : a.eval l = .int .i64 n) (hc : a.eval c = .int .i64 n) (h1 : n ≤ 100000)
    (h : ∀ w', Blk w' W.heap.size 79 (List.replicate n (Value.slice none 0 0)).toArray → Below W.heap.size W w' → wpList Tryz.prog ops Q rest (a.put o.dst (.slice (some ⟨W.heap.size, 0, none⟩) n n)) w') : wpList Tryz.prog ops Q (o :: rest) a W := by
  obtain ⟨i0, hi, hz0, hz1, hz2⟩ := info_parts info_c
  refine wpList_plain hgd fun K hK' => ?_
  have hrun := run_make (P := Tryz.prog) W 24 79 i0 (.slice none 0 0) Tryz.underlying24 hi hz0 .i64 .i64 n n (by omega) (by omega) (by rw [hz2]; omega) (by omega)
  rw [hz1, Nat.mul_one] at hrun
  simp only [Int.toNat_natCast] at hrun
  rw [show (Value.slice none 0 0).cells = #[.slice none 0 0] from rfl, made_nil] at hrun
  have hN := h _ (Blk.new W 79 _) ((Below.refl _ W).alloc (Nat.le_refl _) _)
  clear h
  generalize (List.replicate n (Value.slice none 0 0)).toArray = cs at hrun hN
  unfold Oper.wp
  simp [execOp, ho, hl, hc, hrun, Result.andThen]
  exact hK' _ _ hN

/-- A block of calendars, the first k of which are made. -/
def Made (W : World) (base g : Nat) (cs : List (List Slt)) (n : Nat) : Prop :=
  ∃ us : List Value, us.length = n ∧ Blk W g 79 us.toArray ∧ base ≤ g ∧ ∀ k, k < cs.length → So W base (us.getD k undef) (cs.getD k [])
theorem Made.later {W W' : World} {base g n : Nat} {cs : List (List Slt)} (h : Made W base g cs n) (hb : Below W.heap.size W W') : Made W' base g cs n := by
  obtain ⟨us, e, h, hg, hs⟩ := h
  exact ⟨us, e, h.later hb, hg, fun k hk => (hs k hk).later hb⟩
theorem Made.lt {W : World} {base g n : Nat} {cs : List (List Slt)} (h : Made W base g cs n) : g < W.heap.size := by
  obtain ⟨us, e, h, hg, hs⟩ := h
  exact h.lt
theorem Made.frozen {W : World} {base g n : Nat} {cs : List (List Slt)} (h : Made W base g cs n) (i : Nat) : W.frozen? ⟨g, i, none⟩ = false := by
  obtain ⟨us, e, h, hg, hs⟩ := h
  exact h.frozen i
theorem Made.cell {W : World} {base g n : Nat} {cs : List (List Slt)} (h : Made W base g cs n) {i : Nat} (hi : i < n) : ∃ u, W.cell? ⟨g, i, none⟩ = some u := by
  obtain ⟨us, e, h, hg, hs⟩ := h
  exact ⟨us[i], by rw [h.cell i]; simp [show i < us.length by omega]⟩
theorem Made.start {W : World} {base g n : Nat} (h : Blk W g 79 (List.replicate n (Value.slice none 0 0)).toArray) (hg : base ≤ g) : Made W base g [] n :=
  ⟨_, by simp, h, hg, fun k hk => by simp at hk⟩
theorem So.other {W : World} {base g : Nat} {v : Value} {xs : List Slt} (h : So W base v xs) {us : Array Value} (hb : Blk W g 79 us) (i : Nat) (x : Value) : So (W.setCell ⟨g, i, none⟩ x) base v xs := by
  obtain ⟨h1, h2⟩ := h
  refine ⟨h1, ?_⟩
  rcases h2 with h2 | ⟨g', cap, cur, e, hb', hh, r⟩
  · exact .inl h2
  · refine .inr ⟨g', cap, cur, e, hb', (Below.heap_setCell W ⟨g, i, none⟩ x g' ?_).trans hh, r⟩
    rintro rfl
    have hb : W.heap[g']? = some (.cells us 79 (0, 0)) := hb
    rw [hh] at hb
    simp at hb
theorem Made.put {W : World} {base g n : Nat} {cs : List (List Slt)} (h : Made W base g cs n) {x : Value} {c : List Slt} (hc : So W base x c) (hk : cs.length < n) : Made (W.setCell ⟨g, cs.length, none⟩ x) base g (cs ++ [c]) n := by
  obtain ⟨us, e, h, hg, hs⟩ := h
  refine ⟨us.set cs.length x, by simpa using e, ?_, hg, fun k hk' => ?_⟩
  · have := h.set cs.length x
    rwa [show us.toArray.setIfInBounds cs.length x = (us.set cs.length x).toArray by simp] at this
  · rw [List.length_append, List.length_singleton] at hk'
    by_cases hkl : k < cs.length
    · rw [List.getD_eq_getElem?_getD, List.getElem?_set_ne (by omega), ← List.getD_eq_getElem?_getD, List.getD_eq_getElem?_getD (l := cs ++ [c]), List.getElem?_append_left hkl, ← List.getD_eq_getElem?_getD]
      exact (hs k hkl).other h _ _
    · obtain rfl : k = cs.length := by omega
      rw [List.getD_eq_getElem?_getD, List.getElem?_set_self (by omega), List.getD_eq_getElem?_getD (l := cs ++ [c]), List.getElem?_append_right (by omega)]
      simpa using hc.other h _ _
theorem Made.yo {W : World} {base g n : Nat} {cs : List (List Slt)} (h : Made W base g cs n) (hn : cs.length = n) (hl : n ≤ 100000) : Yo W base (.slice (some ⟨g, 0, none⟩) n n) cs := by
  obtain ⟨us, e, h, hg, hs⟩ := h
  refine ⟨us, by omega, ⟨by simp, .inr ⟨g, n, us.toArray, by rw [e], hg, h, by omega, by unfold maxLen; omega, by simp [e], by simp⟩⟩, hs⟩
theorem Made.empty {W : World} {base g n : Nat} (h : Blk W g 79 (List.replicate n (Value.slice none 0 0)).toArray) (hg : base ≤ g) (hl : n ≤ 100000) : Yo W base (.slice (some ⟨g, 0, none⟩) n n) (List.replicate n []) := by
  refine ⟨List.replicate n (.slice none 0 0), by simp, ⟨by simp, .inr ⟨g, n, _, by simp, hg, h, by simp, by unfold maxLen; omega, by simp, by simp⟩⟩, fun k hk => ?_⟩
  have hk : k < n := by simpa using hk
  simp only [List.getD_eq_getElem?_getD, List.getElem?_replicate, hk, if_true, Option.getD_some]
  exact So.nil _ _

/-- The cells of a machine's calendars. -/
abbrev Y5 (a b c : Int) (n l : Value) : Value := .agg #[.int .i64 a, .int .i64 b, .int .i64 c, n, l]
abbrev K5 (a b c : Int) (n l : Value) : Array Value := #[.int .i64 a, .int .i64 b, .int .i64 c, n, l]
theorem Blk.five {W : World} {B : Nat} {t : TypeId} {a b c n l : Value} (h : Blk W B t #[a, b, c, n, l]) :
    W.cell? ⟨B, 0, none⟩ = some a ∧ W.cell? ⟨B, 1, none⟩ = some b ∧ W.cell? ⟨B, 2, none⟩ = some c ∧ W.cell? ⟨B, 3, none⟩ = some n ∧ W.cell? ⟨B, 4, none⟩ = some l ∧ B < W.heap.size := ⟨h.cell 0, h.cell 1, h.cell 2, h.cell 3, h.cell 4, h.lt⟩
theorem Blk.row5 {W : World} {B : Nat} {t : TypeId} {a b c n l : Value} (h : Blk W B t #[a, b, c, n, l]) :
    W.frozen? ⟨B, 0, none⟩ = false ∧ W.frozen? ⟨B, 1, none⟩ = false ∧ W.frozen? ⟨B, 2, none⟩ = false ∧ W.frozen? ⟨B, 3, none⟩ = false ∧ W.frozen? ⟨B, 4, none⟩ = false := ⟨h.frozen 0, h.frozen 1, h.frozen 2, h.frozen 3, h.frozen 4⟩
abbrev put5 (W : World) (B : Nat) (a b c n l : Value) : World := ((((W.setCell ⟨B, 0, none⟩ a).setCell ⟨B, 1, none⟩ b).setCell ⟨B, 2, none⟩ c).setCell ⟨B, 3, none⟩ n).setCell ⟨B, 4, none⟩ l
theorem Blk.set5 {W : World} {B : Nat} {t : TypeId} {x0 x1 x2 x3 x4 : Value} (h : Blk W B t #[x0, x1, x2, x3, x4]) (a b c n l : Value) : Blk (put5 W B a b c n l) B t #[a, b, c, n, l] :=
  ((((h.set 0 a).set 1 b).set 2 c).set 3 n).set 4 l
theorem below_set5 {m : Nat} {w W : World} {B : Nat} (h : Below m w W) (hn : m ≤ B) (a b c n l : Value) : Below m w (put5 W B a b c n l) :=
  ((((h.setCell (p := ⟨B, 0, none⟩) hn a).setCell (p := ⟨B, 1, none⟩) hn b).setCell (p := ⟨B, 2, none⟩) hn c).setCell (p := ⟨B, 3, none⟩) hn n).setCell (p := ⟨B, 4, none⟩) hn l

/-- What a call's own memory holds from number base on stays, where an older block is written. -/
theorem ownsRow_apart {W : World} {base B : Nat} {t : TypeId} {s n : Nat} {v : Value} {xs : List Value} (h : W.ownsRow base t s v n xs) (hB : B < base) (i : Nat) (x : Value) : (W.setCell ⟨B, i, none⟩ x).ownsRow base t s v n xs := by
  obtain ⟨h1, h2⟩ := h
  refine ⟨h1, ?_⟩
  rcases h2 with h2 | ⟨g, cap, cur, e, hg, hh, r⟩
  · exact .inl h2
  · exact .inr ⟨g, cap, cur, e, hg, (Below.heap_setCell W ⟨B, i, none⟩ x g (by show g ≠ B; omega)).trans hh, r⟩
theorem Yo.apart {W : World} {base B : Nat} {v : Value} {cs : List (List Slt)} (h : Yo W base v cs) (hB : B < base) (i : Nat) (x : Value) : Yo (W.setCell ⟨B, i, none⟩ x) base v cs := by
  obtain ⟨us, e, h, hs⟩ := h
  exact ⟨us, e, ownsRow_apart h hB i x, fun k hk => ownsRow_apart (hs k hk) hB i x⟩
theorem Yo.put5 {W : World} {base B : Nat} {v : Value} {cs : List (List Slt)} (h : Yo W base v cs) (hB : B < base) (a b c n l : Value) : Yo (put5 W B a b c n l) base v cs :=
  ((((h.apart hB 0 a).apart hB 1 b).apart hB 2 c).apart hB 3 n).apart hB 4 l
theorem Yo.slice {W : World} {base : Nat} {v : Value} {cs : List (List Slt)} (h : Yo W base v cs) : ∃ ao n c, v = .slice ao n c := by
  obtain ⟨ao, cap, rfl, _⟩ := h.yl.form
  exact ⟨_, _, _, rfl⟩

end Go.Proofs.YtldcagjnngkabaaGreatDoor

/-
  pos.axes hands out the three axes, each with its stride, and stops where a round says so; whatever dimensions it is given.
-/
namespace Go.Proofs.YtldcagjnngkabaaGreatDoor
open Go.RowKit Go.Shelf

attribute [local go_sem] Oper.semAt_some

def axI (k : Fin 3) : Int := match k with | 0 => 0 | 1 => 1 | 2 => 2
abbrev axEnc (d0 d1 : Int) (k : Fin 3) : Array Value := #[.int .i64 (axI k), .int .i64 (strd d0 d1 k)]

theorem fin3 : ∀ x : Fin 3, x = 0 ∨ x = 1 ∨ x = 2 := by decide

theorem axes_in (F : Fence) (n : Nat) (hF : F.fn 120) (hro : F.round = none) (d0 d1 d2 : Int) (w : World) :
    CallsIn F n Tryz.prog 120 #[A3 d0 d1 d2] w fun e w' => e = .returned (.func (.func 153) #[] #[.pointer (some ⟨w.heap.size, 0, none⟩)]) ∧ w' = w.alloc (.cells #[I d0, I d1, I d2] 23) := by
  refine callsIn_of_wp Tryz.func120 rfl hF ?_ hro
  simp only [Tryz.ntmps120, List.size_toArray, List.length_cons, List.length_nil, Nat.reduceAdd, Nat.reduceSub, Array.replicate_succ, Array.replicate_zero, List.push_toArray, List.append_toArray, List.nil_append, List.cons_append]
  gi_wp2
  go_ret
  exact ⟨rfl, rfl⟩

set_option maxRecDepth 100000 in
set_option maxHeartbeats 2000000 in
theorem axes_stops (F : Fence) (n : Nat) (hF : F.fn 153) (hro : F.round = none) (hn : 1 ≤ n) (Bn : Nat) (d0 d1 d2 : Int) (w : World)
    (hlt : Bn < w.heap.size) (h0 : w.cell? ⟨Bn, 0, none⟩ = some (I d0)) (h1 : w.cell? ⟨Bn, 1, none⟩ = some (I d1)) (h2 : w.cell? ⟨Bn, 2, none⟩ = some (I d2)) :
    SeqStopsK F n Tryz.prog 153 #[.pointer (some ⟨Bn, 0, none⟩)] (axEnc d0 d1) (fun _ _ => True) (fun xs => xs = [0, 1, 2]) (fun pre => pre <+: [0, 1, 2]) 3 w := fun l J Jx W hW hJ hJx hY hJ0 => by
  have c0 : W.cell? ⟨Bn, 0, none⟩ = some (I d0) := (hW.cell (p := ⟨Bn, 0, none⟩) hlt).trans h0
  have c1 : W.cell? ⟨Bn, 1, none⟩ = some (I d1) := (hW.cell (p := ⟨Bn, 1, none⟩) hlt).trans h1
  have c2 : W.cell? ⟨Bn, 2, none⟩ = some (I d2) := (hW.cell (p := ⟨Bn, 2, none⟩) hlt).trans h2
  refine callsIn_of_wp Tryz.func153 rfl hF ?_ hro
  simp only [Tryz.ntmps153, List.size_toArray, List.length_cons, List.length_nil, Nat.reduceAdd, Nat.reduceSub, Array.replicate_succ, Array.replicate_zero, List.push_toArray, List.append_toArray, List.nil_append, List.cons_append]
  have i0 : ∀ w, (Instr.index 23 (A3 d0 d1 d2) (.int .i64 0)).run Tryz.prog w = .ok (I d0) w := fun _ => by kernel_rfl
  have i1 : ∀ w, (Instr.index 23 (A3 d0 d1 d2) (.int .i64 1)).run Tryz.prog w = .ok (I d1) w := fun _ => by kernel_rfl
  have i2 : ∀ w, (Instr.index 23 (A3 d0 d1 d2) (.int .i64 2)).run Tryz.prog w = .ok (I d2) w := fun _ => by kernel_rfl
  gi_wp2
  gi_loopw [3, 7] (fun s i wr => (i = .int .i64 0 ∧ s = .int .i64 1 ∧ J [] wr) ∨ (i = .int .i64 1 ∧ s = .int .i64 (wrap64 d0) ∧ J [0] wr) ∨ (i = .int .i64 2 ∧ s = .int .i64 (wrap64 (wrap64 d0 * d1)) ∧ J [0, 1] wr) ∨ (i = .int .i64 3 ∧ J [0, 1, 2] wr)) (fun _ i _ => 3 - (RowKit.intOf i).toNat)
  case atStart => exact .inl ⟨rfl, rfl, hJ0⟩
  case round =>
    rcases hrel with ⟨rfl, rfl, hj⟩ | ⟨rfl, rfl, hj⟩ | ⟨rfl, rfl, hj⟩ | ⟨rfl, hj⟩
    · obtain ⟨f1, t1, a1, b1, hy1, hR1⟩ := hY [] 0 wr hj (by simp)
      simp only [axEnc, axI, strd] at hy1
      gi_wp2
      refine hR1.mono ?_
      rintro e W3 (⟨rfl, hJ3, _⟩ | ⟨rfl, hJx3⟩)
      · gi_wp2
        go_roundw
        case rel => exact .inr (.inl ⟨rfl, by first | rfl | simp, hJ3⟩)
        case measure => simp [RowKit.intOf]
      · gi_wp2
        refine bodyPost_ret (results_none rfl _ _ _) rfl ?_
        exact ⟨⟨_, rfl⟩, .inr ⟨_, by simp, hJx3⟩⟩
    · obtain ⟨f1, t1, a1, b1, hy1, hR1⟩ := hY [0] 1 wr hj (by simp)
      simp only [axEnc, axI, strd] at hy1
      gi_wp2
      refine hR1.mono ?_
      rintro e W3 (⟨rfl, hJ3, _⟩ | ⟨rfl, hJx3⟩)
      · gi_wp2
        go_roundw
        case rel => exact .inr (.inr (.inl ⟨rfl, rfl, hJ3⟩))
        case measure => simp [RowKit.intOf]
      · gi_wp2
        refine bodyPost_ret (results_none rfl _ _ _) rfl ?_
        exact ⟨⟨_, rfl⟩, .inr ⟨_, by simp, hJx3⟩⟩
    · obtain ⟨f1, t1, a1, b1, hy1, hR1⟩ := hY [0, 1] 2 wr hj (by simp)
      simp only [axEnc, axI, strd] at hy1
      gi_wp2
      refine hR1.mono ?_
      rintro e W3 (⟨rfl, hJ3, _⟩ | ⟨rfl, hJx3⟩)
      · gi_wp2
        go_roundw
        case rel => exact .inr (.inr (.inr ⟨rfl, hJ3⟩))
        case measure => simp [RowKit.intOf]
      · gi_wp2
        refine bodyPost_ret (results_none rfl _ _ _) rfl ?_
        exact ⟨⟨_, rfl⟩, .inr ⟨_, by simp, hJx3⟩⟩
    · gi_wp2
      go_end0
      exact ⟨⟨_, rfl⟩, .inl ⟨_, rfl, hj⟩⟩


/-- A loop over the axes, at the wide fence: what the loop's body keeps, a round at a time. -/
theorem wpIn_axes {g : Operand} {ps : Array Tmp} {assign body : Code} {Q : Exit → Act → World → Prop} {a : Act} {w : World} (Bn : Nat) (d0 d1 d2 : Int)
    (hg : a.eval g = .func (.func 153) #[] #[.pointer (some ⟨Bn, 0, none⟩)]) (hb : Blk w Bn 23 #[I d0, I d1, I d2]) (hps : ps.size = 2)
    (J : List (Fin 3) → World → Prop) (Jx : Code → List (Fin 3) → World → Prop) (hJ : OwnFrom w.heap.size J) (hJx : ∀ c, OwnFrom w.heap.size (Jx c)) (h0 : J [] w) (a₁ : Fin 3 → Act)
    (hassign : ∀ (l : Nat) (x : Fin 3) (W : World) (K : Act → World → Prop), K (a₁ x) W →
      assign.wpIn (Fence.wide.inRound l) 1 Tryz.prog (Exit.then K (fun _ _ _ => False)) { tmps := (ps.zip (axEnc d0 d1 x)).foldl (fun t (p, v) => t.setIfInBounds p v) a.tmps, defers := [] } W)
    (hbody : ∀ (l : Nat) (pre : List (Fin 3)) (x : Fin 3) (W : World), J pre W → pre.length < 3 → body.wpIn (Fence.wide.inRound l) 1 Tryz.prog (ownPostK (fun _ _ => True) J Jx (pre ++ [x]) W) (a₁ x) W)
    (hdone : ∀ (D : Nat) (W : World), w.heap.size ≤ D → J [0, 1, 2] W → W.heap[D]? = some (.deferred (some [])) → Q .normal { a with defers := { target := .collected D, args := #[] } :: a.defers } W)
    (hstop : ∀ (D : Nat) (c : Code) (pre : List (Fin 3)) (W : World), w.heap.size ≤ D → pre <+: [0, 1, 2] → Jx c pre W → W.heap[D]? = some (.deferred (some [])) → c.wpIn Fence.wide 3 Tryz.prog Q { a with defers := { target := .collected D, args := #[] } :: a.defers } W) :
    (Code.rangeFunc g ps assign body).wpIn Fence.wide 3 Tryz.prog Q a w :=
  wpIn_rangeFunc_ownF rfl (by omega) (gf := 153) (lb := #[.pointer (some ⟨Bn, 0, none⟩)]) hg trivial (enters_of Tryz.func153 (by kernel_rfl) rfl)
    (axes_stops Fence.wide 2 trivial rfl (by omega) Bn d0 d1 d2 w hb.lt (hb.cell 0) (hb.cell 1) (hb.cell 2)) (fun _ _ => trivial) (fun _ _ _ _ _ _ _ _ => trivial) (Below.refl _ _) (fun _ => hps.symm)
    J Jx hJ hJx h0 a₁ hassign hbody (fun D xs W hD hxs hj => by subst hxs; exact hdone D W hD hj) hstop

end Go.Proofs.YtldcagjnngkabaaGreatDoor

/-
  pos.Check, pos.many, pos.Many, pos.checkNode: what each call answers, for every input; nothing that lay before is turned.
-/
namespace Go.Proofs.YtldcagjnngkabaaGreatDoor
open Go.RowKit Go.Shelf

attribute [local go_sem] Oper.semAt_some ext_const

set_option maxRecDepth 100000 in
set_option maxHeartbeats 2000000 in
theorem check_in (F : Fence) (n : Nat) (hC : F.fn 87) (hA : F.fn 120) (hF : F.fn 153) (hro : F.round = none) (hn : 3 ≤ n) (d0 d1 d2 : Int) (w : World) :
    CallsIn F n Tryz.prog 87 #[A3 d0 d1 d2] w fun e W' => ((mayD d0 d1 d2 ∧ e = .returned (I 0)) ∨ (¬ mayD d0 d1 d2 ∧ e = .returned (I 8))) ∧ Below w.heap.size w W' := by
  have h1 : 1 ≤ n := by omega
  refine callsIn_of_wp_marks Tryz.func87 rfl hC ?_ hro
  simp only [Tryz.ntmps87, List.size_toArray, List.length_cons, List.length_nil, Nat.reduceAdd, Nat.reduceSub, Array.replicate_succ, Array.replicate_zero, List.push_toArray, List.append_toArray, List.nil_append, List.cons_append]
  gi_wp2_with (gi_at_call 120; refine (axes_in F (n - 1) hA hro _ _ _ _).mono ?_; rintro e w' ⟨rfl, rfl⟩)
  have b0 := ((Blk.new w 23 #[I d0, I d1, I d2]).alloc (.cells #[I 0] 31)).alloc (.cells #[I d0, I d1, I d2] 23)
  have b1 := (Blk.new (w.alloc (.cells #[I d0, I d1, I d2] 23)) 31 #[I 0]).alloc (.cells #[I d0, I d1, I d2] 23)
  have b2 := Blk.new ((w.alloc (.cells #[I d0, I d1, I d2] 23)).alloc (.cells #[I 0] 31)) 23 #[I d0, I d1, I d2]
  simp only [World.size_alloc] at b1 b2
  have hB0 : Below w.heap.size w (((w.alloc (.cells #[I d0, I d1, I d2] 23)).alloc (.cells #[I 0] 31)).alloc (.cells #[I d0, I d1, I d2] 23)) := (((Below.refl _ w).alloc (Nat.le_refl _) _).alloc (by simp) _).alloc (by simp; omega) _
  refine wpIn_rangeFunc_ownF hro h1 (gf := 153) (lb := #[.pointer (some ⟨w.heap.size + 1 + 1, 0, none⟩)]) rfl hF (enters_of Tryz.func153 (by kernel_rfl) rfl)
    (axes_stops F (n - 1) hF hro (by omega) (w.heap.size + 1 + 1) d0 d1 d2 _ b2.lt (b2.cell 0) (b2.cell 1) (b2.cell 2)) (fun _ _ => trivial) (fun _ _ _ _ _ _ _ _ => trivial) (Below.refl _ _) (fun _ => rfl)
    (fun pre W => (((∀ k ∈ pre, okD (dimAt d0 d1 d2 k)) ∧ Blk W w.heap.size 23 #[I d0, I d1, I d2]) ∧ Blk W (w.heap.size + 1) 31 #[I 0]) ∧ Below w.heap.size w W)
    (fun c pre W => ((c = .ret ∧ (∃ k ∈ pre, ¬ okD (dimAt d0 d1 d2 k))) ∧ Blk W (w.heap.size + 1) 31 #[I 8]) ∧ Below w.heap.size w W)
    (OwnFrom.and (Own.from (own_and (own_and (own_pure _) (blk_own _ _ _)) (blk_own _ _ _)) _) (ownFrom_below (Nat.le_refl _) (by simp; omega)))
    (fun c => OwnFrom.and (Own.from (own_and (own_pure _) (blk_own _ _ _)) _) (ownFrom_below (Nat.le_refl _) (by simp; omega)))
    ⟨⟨⟨by simp, b0⟩, b1⟩, hB0⟩
    (fun x => { tmps := #[A3 d0 d1 d2, .pointer (some ⟨w.heap.size, 0, none⟩), .pointer (some ⟨w.heap.size + 1, 0, none⟩), .int .i64 (axI x), A3 d0 d1 d2, .func (.func 153) #[] #[.pointer (some ⟨w.heap.size + 1 + 1, 0, none⟩)], .int .i64 (axI x), .int .i64 (strd d0 d1 x), undef, undef, undef, undef, undef, undef, undef, undef, undef, undef], defers := [] }) ?assign ?body ?done ?stop
  case assign =>
    intro l x W K hK
    gi_wp2
    exact hK
  case body =>
    rintro l pre x W ⟨⟨⟨hp, hb0⟩, hb1⟩, hB⟩ _
    have c0 := hb0.cell 0
    have c1 := hb0.cell 1
    have c2 := hb0.cell 2
    have c3 := hb1.cell 0
    have f3 := hb1.frozen 0
    have fin : ∀ x : Fin 3, okD (dimAt d0 d1 d2 x) → ∀ k ∈ pre ++ [x], okD (dimAt d0 d1 d2 k) := fun x hx k hk => by
      rcases List.mem_append.1 hk with h | h
      · exact hp k h
      · simp at h; subst h; exact hx
    simp at c0 c1 c2 c3
    rcases fin3 x with rfl | rfl | rfl
    all_goals
      simp only [axI]
      gi_wp2
    all_goals first
      | exact ⟨KeepsOthers.refl _, trivial, ⟨⟨fin _ (by simp only [dimAt, okD]; omega), hb0⟩, hb1⟩, hB⟩
      | exact ⟨KeepsOthers.setCell _ _ _, ⟨⟨rfl, _, List.mem_append.2 (.inr (List.mem_singleton.2 rfl)), by simp only [dimAt, okD]; omega⟩, hb1.set 0 _⟩, hB.setCell (p := ⟨w.heap.size + 1, 0, none⟩) (by simp) _⟩
  case done =>
    rintro D xs W hD rfl ⟨⟨⟨hp, hb0⟩, hb1⟩, hB⟩ hK
    have c3 := hb1.cell 0
    have f3 := hb1.frozen 0
    simp at c3
    gi_wp2
    have hK' := (KeepsOthers.setCell W ⟨w.heap.size + 1, 0, none⟩ (.int .i64 0)).same D _ hK rfl
    refine ⟨by simp, .inl ⟨_, _, rfl, run_takeDeferred hK', ?_⟩⟩
    have hc5 := ((hb1.set 0 (.int .i64 0)).putObj (.deferred none) hK' rfl).cell 0
    have ho0 := hp 0 (by simp)
    have ho1 := hp 1 (by simp)
    have ho2 := hp 2 (by simp)
    simp only [dimAt, okD] at ho0 ho1 ho2
    refine ⟨.int .i64 0, ?_, .inl ⟨⟨ho0, ho1, ho2⟩, rfl⟩, below_put _ (hB.setCell (p := ⟨w.heap.size + 1, 0, none⟩) (by simp) _) (by simp at hD; omega) hK'⟩
    simp [results, Tryz.f87, go_sem, hc5]
  case stop =>
    rintro D c pre W hD hpre ⟨⟨⟨rfl, k, hk, hno⟩, hb1⟩, hB⟩ hK
    have c3 := hb1.cell 0
    simp at c3
    gi_wp2
    refine ⟨by simp, .inl ⟨_, _, rfl, run_takeDeferred hK, ?_⟩⟩
    have hc5 := (hb1.putObj (.deferred none) hK rfl).cell 0
    refine ⟨.int .i64 8, ?_, .inr ⟨fun hm => hno ?_, rfl⟩, below_put _ hB (by simp at hD; omega) hK⟩
    · simp [results, Tryz.f87, go_sem, hc5]
    · obtain ⟨m0, m1, m2⟩ := hm
      rcases fin3 k with rfl | rfl | rfl <;> simp only [dimAt, okD] <;> assumption

theorem check_yes {d0 d1 d2 : Int} (w : World) (h : mayD d0 d1 d2) : Calls Tryz.prog 87 #[A3 d0 d1 d2] w fun e W' => e = .returned (I 0) ∧ Below w.heap.size w W' := by
  refine ((callsIn_wide (n := 3)).1 (check_in Fence.wide 3 trivial trivial trivial rfl (by omega) d0 d1 d2 w)).mono ?_
  rintro e W' ⟨⟨_, rfl⟩ | ⟨hn, _⟩, hB⟩
  · exact ⟨rfl, hB⟩
  · exact absurd h hn

theorem check_no {d0 d1 d2 : Int} (w : World) (h : ¬ mayD d0 d1 d2) : Calls Tryz.prog 87 #[A3 d0 d1 d2] w fun e W' => e = .returned (I 8) ∧ Below w.heap.size w W' := by
  refine ((callsIn_wide (n := 3)).1 (check_in Fence.wide 3 trivial trivial trivial rfl (by omega) d0 d1 d2 w)).mono ?_
  rintro e W' ⟨⟨hy, _⟩ | ⟨_, rfl⟩, hB⟩
  · exact absurd hy h
  · exact ⟨rfl, hB⟩

theorem axes_calls (d0 d1 d2 : Int) (w : World) :
    Calls Tryz.prog 120 #[A3 d0 d1 d2] w fun e w' => e = .returned (.func (.func 153) #[] #[.pointer (some ⟨w.heap.size, 0, none⟩)]) ∧ w' = w.alloc (.cells #[I d0, I d1, I d2] 23) :=
  (callsIn_wide (n := 3)).1 (axes_in Fence.wide 3 trivial rfl d0 d1 d2 w)

theorem below_calls (k n : Int) (w : World) :
    Calls Tryz.prog 180 #[I k, I n] w fun e w' => e = .returned (.bool (belowB k n)) ∧ w' = w := by
  go_enter Tryz.func180, Tryz.ntmps180
  go_wp2
  all_goals
    go_ret
    first
      | exact ⟨rfl, rfl⟩
      | (refine ⟨?_, rfl⟩; simp [belowB]; omega)

set_option maxRecDepth 100000 in
set_option maxHeartbeats 2000000 in
theorem many_calls {d0 d1 d2 : Int} (w : World) (hm : mayD d0 d1 d2) :
    Calls Tryz.prog 88 #[A3 d0 d1 d2] w fun e W' => e = .returned (I (d0 * d1 * d2)) ∧ Below w.heap.size w W' := by
  refine (callsIn_wide (n := 3)).1 ?_
  have h1 : 1 ≤ 3 := by omega
  refine callsIn_of_wp_marks Tryz.func88 rfl trivial ?_ rfl
  simp only [Tryz.ntmps88, List.size_toArray, List.length_cons, List.length_nil, Nat.reduceAdd, Nat.reduceSub, Array.replicate_succ, Array.replicate_zero, List.push_toArray, List.append_toArray, List.nil_append, List.cons_append]
  gi_wp2_with (refine ⟨trivial, ?_⟩; gi_at_call 120; refine (callsIn_wide.2 (axes_calls _ _ _ _)).mono ?_; rintro e w' ⟨rfl, rfl⟩)
  have b0 := ((Blk.new w 23 #[I d0, I d1, I d2]).alloc (.cells #[I 1] 3)).alloc (.cells #[I d0, I d1, I d2] 23)
  have b1 := (Blk.new (w.alloc (.cells #[I d0, I d1, I d2] 23)) 3 #[I 1]).alloc (.cells #[I d0, I d1, I d2] 23)
  have b2 := Blk.new ((w.alloc (.cells #[I d0, I d1, I d2] 23)).alloc (.cells #[I 1] 3)) 23 #[I d0, I d1, I d2]
  simp only [World.size_alloc] at b1 b2
  have hB0 : Below w.heap.size w (((w.alloc (.cells #[I d0, I d1, I d2] 23)).alloc (.cells #[I 1] 3)).alloc (.cells #[I d0, I d1, I d2] 23)) := (((Below.refl _ w).alloc (Nat.le_refl _) _).alloc (by simp) _).alloc (by simp; omega) _
  refine wpIn_axes (w.heap.size + 1 + 1) d0 d1 d2 rfl b2 rfl
    (fun pre W => (Blk W w.heap.size 23 #[I d0, I d1, I d2] ∧ Blk W (w.heap.size + 1) 3 #[I (prodL d0 d1 d2 pre)]) ∧ Below w.heap.size w W)
    (fun _ _ _ => False)
    (OwnFrom.and (Own.from (own_and (blk_own _ _ _) (blk_own _ _ _)) _) (ownFrom_below (Nat.le_refl _) (by simp; omega)))
    (fun _ _ _ _ _ hs _ _ => hs)
    ⟨⟨b0, b1⟩, hB0⟩
    (fun x => { tmps := #[A3 d0 d1 d2, .pointer (some ⟨w.heap.size, 0, none⟩), .int .i64 0, .pointer (some ⟨w.heap.size + 1, 0, none⟩), .int .i64 (axI x), A3 d0 d1 d2, .func (.func 153) #[] #[.pointer (some ⟨w.heap.size + 1 + 1, 0, none⟩)], .int .i64 (axI x), .int .i64 (strd d0 d1 x), undef, undef, undef, undef, undef, undef], defers := [] }) ?assign ?body ?done ?stop
  case assign =>
    intro l x W K hK
    gi_wp2
    exact hK
  case body =>
    rintro l pre x W ⟨⟨hb0, hb1⟩, hB⟩ hlen
    have c0 := hb0.cell 0
    have c1 := hb0.cell 1
    have c2 := hb0.cell 2
    have c3 := hb1.cell 0
    have f3 := hb1.frozen 0
    simp at c0 c1 c2 c3
    have hw := Hid.out (prodL_snoc hm pre x hlen)
    have HW : Hid (wrap64 (prodL d0 d1 d2 pre * dimAt d0 d1 d2 x) = prodL d0 d1 d2 (pre ++ [x])) := hw
    clear hw
    have hmx : Tryz.prog.follows .mixedOrders = true := by kernel_rfl
    have e0 := Ext.cell hb0 0
    have e1 := Ext.cell hb0 1
    have e2 := Ext.cell hb0 2
    have e3 := Ext.cell hb1 0
    simp at e0 e1 e2 e3
    rcases fin3 x with rfl | rfl | rfl
    all_goals
      simp only [axI]
      gi_wp2
      refine wpIn_region_tail 5 (loose_round _ l) hmx (by kernel_rfl) ?_
      simp only [List.take_succ_cons, List.take_zero, List.drop_succ_cons, List.drop_zero]
      repeat (go_big_quiet_step (fail))
      refine wpQuiet_nil ?_
      intro x
      have g3 := Ext.frozen hb1 0 x
      gi_wp2
      refine ⟨(keeps_below x.le).trans (KeepsOthers.setCell _ _ _), trivial, ⟨(hb0.later x.le).other 0 _ (by omega), ?_⟩, (below_ext hB x).setCell (p := ⟨w.heap.size + 1, 0, none⟩) (by simp) _⟩
      rw [← HW.out]
      exact (hb1.later x.le).set 0 _
  case done =>
    rintro D W hD ⟨⟨hb0, hb1⟩, hB⟩ hK
    have c3 := hb1.cell 0
    simp at c3
    gi_wp2
    refine ⟨by simp, .inl ⟨_, _, rfl, run_takeDeferred hK, ?_⟩⟩
    exact ⟨_, results_tmp rfl _ _ _, by simp [prodL, dimAt], below_put _ hB (by simp at hD; omega) hK⟩
  case stop =>
    rintro D c pre W _ _ h _
    exact h.elim

end Go.Proofs.YtldcagjnngkabaaGreatDoor

/-
  pos.Many, pos.checkNode: what each call answers, for every input; nothing that lay before is turned.
-/
namespace Go.Proofs.YtldcagjnngkabaaGreatDoor
open Go.RowKit Go.Shelf

attribute [local go_sem] Oper.semAt_some ext_const

set_option maxHeartbeats 400000 in
theorem many_no {d0 d1 d2 : Int} (w : World) (hm : ¬ mayD d0 d1 d2) :
    Calls Tryz.prog 48 #[A3 d0 d1 d2] w fun e W' => e = .returned (.tuple #[I 0, I 8]) ∧ Below w.heap.size w W' := by
  go_enter Tryz.func48, Tryz.ntmps48
  go_wp2_with fail
  refine (check_no _ hm).mono ?_
  rintro e w1 ⟨rfl, hB⟩
  go_wp2
  go_ret2
  exact ⟨rfl, ((Below.refl _ w).alloc (Nat.le_refl _) _).trans (hB.mono (by simp))⟩

set_option maxHeartbeats 400000 in
theorem many_yes {d0 d1 d2 : Int} (w : World) (hm : mayD d0 d1 d2) :
    Calls Tryz.prog 48 #[A3 d0 d1 d2] w fun e W' => e = .returned (.tuple #[I (d0 * d1 * d2), I 0]) ∧ Below w.heap.size w W' := by
  go_enter Tryz.func48, Tryz.ntmps48
  go_wp2_with fail
  refine (check_yes _ hm).mono ?_
  rintro e w1 ⟨rfl, hB⟩
  have b0 := (Blk.new w 23 #[I d0, I d1, I d2]).later hB
  have c0 := b0.cell 0
  have c1 := b0.cell 1
  have c2 := b0.cell 2
  simp at c0 c1 c2
  go_wp2_with fail
  refine (many_calls _ hm).mono ?_
  rintro e w2 ⟨rfl, hB2⟩
  go_wp2
  go_ret2
  exact ⟨rfl, (((Below.refl _ w).alloc (Nat.le_refl _) _).trans (hB.mono (by simp))).trans (hB2.mono (by have := hB.size; simp at this; omega))⟩

set_option maxHeartbeats 400000 in
theorem node_bad {d0 d1 d2 : Int} (m : Int) (w : World) (hm : ¬ mayD d0 d1 d2) :
    Calls Tryz.prog 211 #[A3 d0 d1 d2, I m] w fun e W' => e = .returned (I 8) ∧ Below w.heap.size w W' := by
  go_enter Tryz.func211, Tryz.ntmps211
  go_wp2_with fail
  refine (many_no _ hm).mono ?_
  rintro e w1 ⟨rfl, hB⟩
  go_wp2
  go_ret
  exact ⟨rfl, ((Below.refl _ w).alloc (Nat.le_refl _) _).trans (hB.mono (by simp))⟩

set_option maxHeartbeats 400000 in
theorem node_no {d0 d1 d2 : Int} (m : Int) (w : World) (hm : mayD d0 d1 d2) (hn : belowB m (d0 * d1 * d2) = false) :
    Calls Tryz.prog 211 #[A3 d0 d1 d2, I m] w fun e W' => e = .returned (I 2) ∧ Below w.heap.size w W' := by
  go_enter Tryz.func211, Tryz.ntmps211
  go_wp2_with fail
  refine (many_yes _ hm).mono ?_
  rintro e w1 ⟨rfl, hB⟩
  go_wp2_with fail
  refine (below_calls _ _ _).mono ?_
  rintro e w2 ⟨rfl, rfl⟩
  go_wp2
  go_ret
  exact ⟨rfl, ((Below.refl _ w).alloc (Nat.le_refl _) _).trans (hB.mono (by simp))⟩

set_option maxHeartbeats 400000 in
theorem node_yes {d0 d1 d2 : Int} (m : Int) (w : World) (hm : mayD d0 d1 d2) (hn : belowB m (d0 * d1 * d2) = true) :
    Calls Tryz.prog 211 #[A3 d0 d1 d2, I m] w fun e W' => e = .returned (I 0) ∧ Below w.heap.size w W' := by
  go_enter Tryz.func211, Tryz.ntmps211
  go_wp2_with fail
  refine (many_yes _ hm).mono ?_
  rintro e w1 ⟨rfl, hB⟩
  go_wp2_with fail
  refine (below_calls _ _ _).mono ?_
  rintro e w2 ⟨rfl, rfl⟩
  go_wp2
  go_ret
  exact ⟨rfl, ((Below.refl _ w).alloc (Nat.le_refl _) _).trans (hB.mono (by simp))⟩

end Go.Proofs.YtldcagjnngkabaaGreatDoor

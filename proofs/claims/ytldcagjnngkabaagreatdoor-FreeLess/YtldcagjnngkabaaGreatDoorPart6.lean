/-
  The document's Less, Ended, With (tidehallref08): what each call answers.
-/
import Derived.Test.YtldcagjnngkabaaGreatDoorPart5
import Derived.Test.YtldcagjnngkabaaGreatDoorPart4
import Derived.Lib.AppendZeros
import Derived.Test.YtldcagjnngkabaaGreatDoorPart3
namespace Go.Proofs.YtldcagjnngkabaaGreatDoor
open Go Go.RowKit Go.Shelf

attribute [local go_sem] Oper.semAt_some ext_const

/-- How With goes on. -/
structure Wst (s : Slt) (l out : List Slt) (d : Bool) : Prop where
  no : d = false → (∀ y ∈ l, ¬ s.1 < y.1) ∧ out = l
  yes : d = true → (∃ y ∈ l, s.1 < y.1) ∧ out = withC s l
theorem withC_past {s : Slt} : ∀ {l : List Slt} (m : List Slt), (∀ y ∈ l, ¬ s.1 < y.1) → withC s (l ++ m) = l ++ withC s m
  | [], _, _ => rfl
  | y :: r, m, h => by
    rw [List.cons_append, withC, if_neg (h y (by simp)), withC_past m fun z hz => h z (by simp [hz])]
    rfl
theorem withC_app {s : Slt} : ∀ {l : List Slt} (m : List Slt), (∃ y ∈ l, s.1 < y.1) → withC s (l ++ m) = withC s l ++ m
  | [], _, h => by obtain ⟨y, hy, _⟩ := h; cases hy
  | y :: r, m, h => by
    rw [List.cons_append, withC, withC]
    by_cases hy : s.1 < y.1
    · rw [if_pos hy, if_pos hy]; rfl
    · rw [if_neg hy, if_neg hy, withC_app m]
      · rfl
      · obtain ⟨z, hz, hz2⟩ := h
        rcases List.mem_cons.1 hz with rfl | hz
        · exact absurd hz2 hy
        · exact ⟨z, hz, hz2⟩
theorem Wst.start (s : Slt) : Wst s [] [] false := ⟨fun _ => ⟨fun y hy => (by cases hy), rfl⟩, fun h => (by cases h)⟩
theorem Wst.on {s x : Slt} {l out : List Slt} (h : Wst s l out true) : Wst s (l ++ [x]) (out ++ [x]) true := by
  obtain ⟨⟨y, hy, hy2⟩, e⟩ := h.yes rfl
  exact ⟨fun h => (by cases h), fun _ => ⟨⟨y, by simp [hy], hy2⟩, by rw [withC_app _ ⟨y, hy, hy2⟩, e]⟩⟩
theorem Wst.skip {s x : Slt} {l out : List Slt} (h : Wst s l out false) (hx : ¬ s.1 < x.1) : Wst s (l ++ [x]) (out ++ [x]) false := by
  obtain ⟨h1, h2⟩ := h.no rfl
  refine ⟨fun _ => ⟨fun y hy => ?_, by rw [h2]⟩, fun h => (by cases h)⟩
  rcases List.mem_append.1 hy with hy | hy
  · exact h1 y hy
  · rw [List.mem_singleton.1 hy]; exact hx
theorem Wst.hit {s x : Slt} {l out : List Slt} (h : Wst s l out false) (hx : s.1 < x.1) : Wst s (l ++ [x]) (out ++ [s] ++ [x]) true := by
  obtain ⟨h1, h2⟩ := h.no rfl
  refine ⟨fun h => (by cases h), fun _ => ⟨⟨x, by simp, hx⟩, ?_⟩⟩
  rw [withC_past _ h1, h2, withC, if_pos hx]
  simp
theorem Wst.end0 {s : Slt} {l out : List Slt} (h : Wst s l out false) : out ++ [s] = withC s l := by
  obtain ⟨h1, h2⟩ := h.no rfl
  have := withC_past (s := s) [] h1
  rw [List.append_nil] at this
  rw [this, h2]
  rfl
theorem Wst.end1 {s : Slt} {l out : List Slt} (h : Wst s l out true) : out = withC s l := (h.yes rfl).2
theorem Wst.few {s : Slt} {l out : List Slt} {d : Bool} (h : Wst s l out d) : out.length ≤ l.length + 1 := by
  cases d
  · rw [(h.no rfl).2]; omega
  · rw [(h.yes rfl).2, withC_len]; omega

set_option maxRecDepth 100000 in
set_option maxHeartbeats 8000000 in
theorem rwith_calls {xs : List Slt} {v : Value} {x y z : Int} (w : World) (hS : Ss w v xs) (hn : xs.length ≤ 10000) : Calls Tryz.prog 71 #[v, V3 x y z] w fun e W' => ∃ u, e = .returned u ∧ So W' w.heap.size u (withC (x, y, z) xs) ∧ Below w.heap.size w W' := by
  have hmx : Tryz.prog.follows .mixedOrders = true := by kernel_rfl
  obtain ⟨ao, cap, rfl, hS⟩ := hS.form
  obtain ⟨W, hW, hB, hK⟩ := one_start w (C3 x y z) 85
  have HW : Hid (w.alloc (.cells (C3 x y z) 85) = W) := hW
  have HS : Hid (Ss W (.slice ao xs.length cap) xs) := hS.later hB
  clear hS hW
  have H0 : Hid (∀ out, Wst (x, y, z) xs out false → out ++ [(x, y, z)] = withC (x, y, z) xs) := fun out h => h.end0
  have H1 : Hid (∀ out, Wst (x, y, z) xs out true → out = withC (x, y, z) xs) := fun out h => h.end1
  generalize withC (x, y, z) xs = tgt at H0 H1 ⊢
  go_enter Tryz.func71, Tryz.ntmps71
  go_wp2
  rw [HW.out]
  go_loopw [5, 6, 7] (fun u dn i wr => ∃ (k : Nat) (d : Bool) (ao' : Option Addr) (n' cap' : Nat) (ys : List Slt), k ≤ xs.length ∧ i = .int .i64 k ∧ dn = .bool d ∧ u = .slice ao' n' cap' ∧ Hid (So wr W.heap.size (.slice ao' n' cap') ys) ∧ Hid (Wst (x, y, z) (xs.take k) ys d) ∧ Below W.heap.size W wr) (fun _ _ i _ => xs.length - (RowKit.intOf i).toNat)
  case atStart => exact ⟨0, false, _, _, _, [], by omega, rfl, rfl, rfl, So.nil _ _, Wst.start _, Below.refl _ _⟩
  case round =>
    obtain ⟨k, d, ao', n', cap', ys, hk, rfl, rfl, rfl, HY, HF, hT⟩ := hrel
    have hyl : ys.length ≤ 50000 := by have := HF.out.few; rw [List.length_take] at this; omega
    by_cases hlt : (k : Int) < (xs.length : Int)
    · have hk' : k < xs.length := by omega
      obtain ⟨g, off, f, t, o, rfl, hu, ha⟩ := (HS.out.later hT).at hk'
      have HU : Hid (xs.take (k + 1) = xs.take k ++ [(f, t, o)]) := take_snoc hk' hu
      obtain ⟨gS, _, _, _⟩ := (HS.out).at hk'
      have hgW : g < W.heap.size := by
        obtain ⟨g2, off2, _, _, _, e2, _, ha2⟩ := (HS.out).at hk'
        simp only [Option.some.injEq, Addr.mk.injEq] at e2
        rw [e2.1]; exact ha2.1
      obtain ⟨e0, e1, e2⟩ := ha.ext
      have b0 : ∀ X : Ext wr, X.wd.cell? ⟨w.heap.size, 0, none⟩ = some (.int .i64 x) := fun X => (hK.later (then_below hT X.le)).cell 0
      clear hu
      cases d
      · by_cases hq : x < f
        · have HN : Hid (Wst (x, y, z) (xs.take (k + 1)) (ys ++ [(x, y, z)] ++ [(f, t, o)]) true) := by show Wst _ _ _ _; rw [HU.out]; exact HF.out.hit hq
          go_wp2
          refine wp_region_look hmx (by kernel_rfl) ?_
          repeat (go_big_quiet_step (fail))
          refine wpQuiet_nil ?_
          intro X
          have hT1 := then_below hT X.le
          have hat1 := ha.later X.le
          have HY1 : Hid (So X.wd W.heap.size (.slice ao' n' cap') ys) := HY.out.later X.le
          clear e0 e1 e2 b0 ha HY
          generalize X.wd = w1 at *
          obtain ⟨hz, c0, c1, c2⟩ := hat1.cells
          obtain ⟨hz', d0, d1, d2⟩ := (hK.later hT1).at3.cells
          have hsz := hT1.size
          have hyl0 : ys.length ≤ 100000 := by omega
          go_wp2_with (first
            | (at_builtin; refine wpList_appS (base := W.heap.size) (xs := ys ++ [(x, y, z)]) rfl _ _ rfl rfl rfl rfl hW3 hl3 hz3 ?_; intro ao4 n4 cap4 w4 hW4 hB4)
            | (at_builtin; refine wpList_appS (base := W.heap.size) (xs := ys) rfl _ _ rfl rfl rfl rfl HY1.out hyl0 hsz ?_; intro ao3 n3 cap3 w3 hW3 hB3
               obtain ⟨hq0, h0, h1, h2⟩ := (hat1.below hB3 hgW).cells
               have hz3 := Nat.le_trans hsz hB3.size
               have hl3 : (ys ++ [(x, y, z)]).length ≤ 100000 := by simp; omega)
            | go_in)
          go_roundw
          case rel => exact ⟨k + 1, true, _, _, _, _, by omega, by go_num, rfl, rfl, hW4, HN, hT1.trans (hB3.trans hB4)⟩
          case measure => simp [RowKit.intOf]; omega
        · have HN : Hid (Wst (x, y, z) (xs.take (k + 1)) (ys ++ [(f, t, o)]) false) := by show Wst _ _ _ _; rw [HU.out]; exact HF.out.skip hq
          have hq : decide (x < f) = false := decide_eq_false hq
          go_wp2
          refine wp_region_look hmx (by kernel_rfl) ?_
          repeat (go_big_quiet_step (fail))
          refine wpQuiet_nil ?_
          intro X
          have hT1 := then_below hT X.le
          have hat1 := ha.later X.le
          have HY1 : Hid (So X.wd W.heap.size (.slice ao' n' cap') ys) := HY.out.later X.le
          clear e0 e1 e2 b0 ha HY
          generalize X.wd = w1 at *
          obtain ⟨hz, c0, c1, c2⟩ := hat1.cells
          have hsz := hT1.size
          have hyl0 : ys.length ≤ 100000 := by omega
          go_wp2_with (first
            | (at_builtin; refine wpList_appS (base := W.heap.size) (xs := ys) rfl _ _ rfl rfl rfl rfl HY1.out hyl0 hsz ?_; intro ao3 n3 cap3 w3 hW3 hB3)
            | go_in)
          go_roundw
          case rel => exact ⟨k + 1, false, _, _, _, _, by omega, by go_num, rfl, rfl, hW3, HN, hT1.trans hB3⟩
          case measure => simp [RowKit.intOf]; omega
      · have HN : Hid (Wst (x, y, z) (xs.take (k + 1)) (ys ++ [(f, t, o)]) true) := by show Wst _ _ _ _; rw [HU.out]; exact HF.out.on
        go_wp2
        refine wp_region_look hmx (by kernel_rfl) ?_
        repeat (go_big_quiet_step (fail))
        refine wpQuiet_nil ?_
        intro X
        have hT1 := then_below hT X.le
        have hat1 := ha.later X.le
        have HY1 : Hid (So X.wd W.heap.size (.slice ao' n' cap') ys) := HY.out.later X.le
        clear e0 e1 e2 b0 ha HY
        generalize X.wd = w1 at *
        obtain ⟨hz, c0, c1, c2⟩ := hat1.cells
        have hsz := hT1.size
        have hyl0 : ys.length ≤ 100000 := by omega
        go_wp2_with (first
          | (at_builtin; refine wpList_appS (base := W.heap.size) (xs := ys) rfl _ _ rfl rfl rfl rfl HY1.out hyl0 hsz ?_; intro ao3 n3 cap3 w3 hW3 hB3)
          | go_in)
        go_roundw
        case rel => exact ⟨k + 1, true, _, _, _, _, by omega, by go_num, rfl, rfl, hW3, HN, hT1.trans hB3⟩
        case measure => simp [RowKit.intOf]; omega
    · obtain rfl : k = xs.length := by omega
      have hF := HF.out
      rw [List.take_length] at hF
      have hsz := hT.size
      have hyl0 : ys.length ≤ 100000 := by omega
      cases d
      · have HE : Hid (ys ++ [(x, y, z)] = tgt) := H0.out ys hF
        obtain ⟨hz', d0, d1, d2⟩ := (hK.later hT).at3.cells
        clear hF
        go_wp2_with (first
          | (at_builtin; refine wpList_appS (base := W.heap.size) (xs := ys) rfl _ _ rfl rfl rfl rfl HY.out hyl0 hsz ?_; intro ao3 n3 cap3 w3 hW3 hB3)
          | go_in)
        go_ret
        exact ⟨_, rfl, HE.out ▸ hW3.weak hB.size, hB.trans ((hT.trans hB3).mono hB.size)⟩
      · have hE : ys = tgt := H1.out ys hF
        subst hE
        clear hF
        have HY2 : Hid (So wr w.heap.size (.slice ao' n' cap') ys) := HY.out.weak hB.size
        go_wp2
        go_ret
        exact ⟨_, rfl, HY2.out, then_below hB hT⟩

end Go.Proofs.YtldcagjnngkabaaGreatDoor

/-
  cal.At, cal.Next: what each call answers.
-/
namespace Go.Proofs.YtldcagjnngkabaaGreatDoor
open Go Go.RowKit Go.Shelf

attribute [local go_sem] Oper.semAt_some ext_const

def momB (a : Int) : Bool := decide (0 ≤ a) && decide (a < 1099511627776)
/-- What At answers. -/
def atE (xs : List Slt) (a : Int) : Int := if mayCB xs then (if momB a then (match atC xs a with | some _ => 0 | none => 6) else 2) else 8
def atV (xs : List Slt) (a : Int) : Int := if mayCB xs then (if momB a then (match atC xs a with | some o => o | none => 0) else 0) else 0
theorem momB_yes {a : Int} (h : 0 ≤ a ∧ a < 1099511627776) : momB a = true := by simp [momB, h]
theorem momB_no {a : Int} (h : ¬ (0 ≤ a ∧ a < 1099511627776)) : momB a = false := by
  unfold momB
  rw [Bool.and_eq_false_iff]
  by_cases h0 : 0 ≤ a
  · exact .inr (decide_eq_false fun h1 => h ⟨h0, h1⟩)
  · exact .inl (decide_eq_false h0)

theorem nextC_is {c : List Slt} (hf : fineC c) {a long n : Int} (hl : 1 ≤ long) (hn : okF c a long n = true) (h : ∀ m, okF c a long m = true → n ≤ m) : nextC c a long = some n := by
  cases e : nextC c a long with
  | none =>
    have := nextC_none hf hl e n
    rw [this] at hn
    cases hn
  | some k =>
    obtain ⟨h1, h2⟩ := nextC_some hf hl e
    have := h k h1
    have := h2 n hn
    rw [show k = n by omega]
theorem nextC_not {c : List Slt} (hf : fineC c) {a long : Int} (hl : 1 ≤ long) (h : ∀ m, okF c a long m = false) : nextC c a long = none := by
  cases e : nextC c a long with
  | none => rfl
  | some k =>
    have := (nextC_some hf hl e).1
    rw [h k] at this
    cases this

/-- What holds behind k slots of Next's walk, p being the moment that is looked at. -/
structure Nx (c : List Slt) (a long : Int) (k : Nat) (p : Int) : Prop where
  lo : a ≤ p
  hi : p ≤ 1099511627776
  ends : ∀ j, j < k → (c.getD j (0, 0, 0)).2.1 ≤ p
  least : ∀ m, okF c a long m = true → p ≤ m
theorem okF_iff {c : List Slt} (hf : fineC c) {a long m : Int} (hl : 1 ≤ long) : okF c a long m = true ↔ a ≤ m ∧ long ≤ 1099511627776 - m ∧ ∀ s ∈ c, m + long ≤ s.1 ∨ s.2.1 ≤ m := by
  unfold okF
  rw [Bool.and_eq_true, Bool.and_eq_true, decide_eq_true_eq, decide_eq_true_eq, clearC_iff hf (by omega)]
theorem Nx.hit {c : List Slt} {a long p f t o : Int} {k : Nat} (N : Nx c a long k p) (hm : mayC c) (hl : 1 ≤ long) (hk : k < c.length) (hu : c.getD k (0, 0, 0) = (f, t, o)) (h : long ≤ f - p) : nextC c a long = some p := by
  have hf := mayC_fine hm
  have hmem : ∀ j, j < c.length → c.getD j (0, 0, 0) ∈ c := fun j hj => by simp [hj]
  have hs := hm.1 _ (hmem k hk)
  rw [hu] at hs
  have hs1 : 0 ≤ f ∧ f < t ∧ t ≤ 1099511627776 := hs.1
  refine nextC_is hf hl ((okF_iff hf hl).2 ⟨N.lo, by omega, fun s hs => ?_⟩) N.least
  obtain ⟨i, hi, rfl⟩ := List.mem_iff_getElem.1 hs
  by_cases hik : i < k
  · have := N.ends i hik
    simp [hi] at this
    exact .inr this
  · by_cases hik2 : i = k
    · subst hik2
      simp [hi] at hu
      rw [hu]
      exact .inl (by show p + long ≤ f; omega)
    · have := List.pairwise_iff_getElem.1 hm.2.1 k i hk hi (by omega)
      simp [hk] at hu
      rw [hu] at this
      simp only at this
      exact .inl (by omega)
theorem Nx.next {c : List Slt} {a long p f t o q : Int} {k : Nat} (N : Nx c a long k p) (hm : mayC c) (hl : 1 ≤ long) (hk : k < c.length) (hu : c.getD k (0, 0, 0) = (f, t, o)) (h : ¬ long ≤ f - p) (hq : p ≤ q ∧ t ≤ q ∧ (q = p ∨ q = t)) : Nx c a long (k + 1) q := by
  have hf := mayC_fine hm
  have hmem : ∀ j, j < c.length → c.getD j (0, 0, 0) ∈ c := fun j hj => by simp [hj]
  have hs := hm.1 _ (hmem k hk)
  rw [hu] at hs
  have hs1 : 0 ≤ f ∧ f < t ∧ t ≤ 1099511627776 := hs.1
  have := N.lo
  have := N.hi
  refine ⟨by omega, by omega, fun j hj => ?_, fun m hm2 => ?_⟩
  · rcases Nat.lt_succ_iff_lt_or_eq.1 hj with h | rfl
    · have := N.ends j h
      omega
    · rw [hu]; exact hq.2.1
  · have h1 := N.least m hm2
    have h2 := ((okF_iff hf hl).1 hm2).2.2 _ (hmem k hk)
    rw [hu] at h2
    simp only at h2
    omega
theorem Nx.none {c : List Slt} {a long p : Int} (N : Nx c a long c.length p) (hm : mayC c) (hl : 1 ≤ long) (h : 1099511627776 - p < long) : nextC c a long = none := by
  have hf := mayC_fine hm
  refine nextC_not hf hl fun m => ?_
  cases e : okF c a long m
  · rfl
  · have := N.least m e
    have := ((okF_iff hf hl).1 e).2.1
    omega
theorem Nx.end {c : List Slt} {a long p : Int} (N : Nx c a long c.length p) (hm : mayC c) (hl : 1 ≤ long) (h : ¬ 1099511627776 - p < long) : nextC c a long = some p := by
  have hf := mayC_fine hm
  refine nextC_is hf hl ((okF_iff hf hl).2 ⟨N.lo, by omega, fun s hs => ?_⟩) N.least
  obtain ⟨i, hi, rfl⟩ := List.mem_iff_getElem.1 hs
  have := N.ends i hi
  simp [hi] at this
  exact .inr this

/-- What Next answers. -/
def askN (a long : Int) : Bool := momB a && decide (1 ≤ long)
def nextE (xs : List Slt) (a long : Int) : Int := if mayCB xs then (if askN a long then (match nextC xs a long with | some _ => 0 | none => 6) else 2) else 8
def nextV (xs : List Slt) (a long : Int) : Int := if mayCB xs then (if askN a long then (match nextC xs a long with | some n => n | none => 0) else 0) else 0
theorem askN_yes {a long : Int} (h : 0 ≤ a ∧ a < 1099511627776 ∧ 1 ≤ long) : askN a long = true := by simp [askN, momB_yes ⟨h.1, h.2.1⟩, h.2.2]
theorem askN_no {a long : Int} (h : ¬ (0 ≤ a ∧ a < 1099511627776 ∧ 1 ≤ long)) : askN a long = false := by
  unfold askN
  by_cases h1 : 0 ≤ a ∧ a < 1099511627776
  · rw [decide_eq_false (fun h2 => h ⟨h1.1, h1.2, h2⟩)]
    simp
  · rw [momB_no h1]
    rfl

end Go.Proofs.YtldcagjnngkabaaGreatDoor

/-
  slices.Grow and slices.Concat over slots: what each call answers.
-/
namespace Go.Proofs.YtldcagjnngkabaaGreatDoor
open Go Go.RowKit Go.Shelf

attribute [local go_sem] Oper.semAt_some ext_const

theorem zeroCells_size (n : Nat) : (Builtin.zeroCells (V3 0 0 0).cells n).size = n * 3 := by
  unfold Builtin.zeroCells
  simp
  rfl

/-- 'append(nil, make([]api.Slot, n)...)'. -/
theorem wpList_growS {ops : Array Oper} {rest : List Oper} {o : Oper} {a : Act} {Q : Exit → Act → World → Prop} {W : World} (hgd : o.guard = none) (s x : Operand)
    (ho : o.op = .call { callee := .builtin .append, args := #[s, x], argTypes := #[79, 3] }) (n : Nat) (hs : a.eval s = .slice none 0 0) (hx : a.eval x = .int .i64 n) (h0 : 0 < n) (h1 : n ≤ 100000)
    (h : ∀ cap w', n ≤ cap → So w' W.heap.size (.slice (some ⟨W.heap.size, 0, none⟩) 0 cap) [] → Below W.heap.size W w' → wpList Tryz.prog ops Q rest (a.put o.dst (.slice (some ⟨W.heap.size, 0, none⟩) n cap)) w') : wpList Tryz.prog ops Q (o :: rest) a W := by
  obtain ⟨i0, hi, hz0, hz1, hz2⟩ := info_parts info_s
  refine Lib.wpList_append_run W hgd s x 79 3 ho _ _ hs hx _ _ (Lib.run_append_nil_zeros W 79 3 o.type 85 i0 _ .i64 .i64 Tryz.underlying79 Tryz.underlying3 hi hz0 n h0 (by rw [hz1]; omega) (by omega) (by rw [hz2]; omega)) ?_
  have hge := grownCap_ge W n 0 85
  have hle := grownCap_le_maxLen W n 0 85 (by unfold maxLen; omega)
  generalize grownCap W n 0 85 = cap at *
  refine h cap _ hge ?_ ?_
  · refine ⟨rfl, .inr ⟨W.heap.size, cap, _, rfl, Nat.le_refl _, World.alloc_heap_new W.drew _, Nat.zero_le _, hle, ?_, by simp [flatS]⟩⟩
    rw [Array.size_append, zeroCells_size, zeroCells_size]
    omega
  · exact (Below.refl _ W).drew.alloc (Nat.le_refl _) _

theorem grow_calls {n : Nat} (w : World) (h0 : 0 < n) (h1 : n ≤ 100000) :
    Calls Tryz.prog 124 #[.slice none 0 0, I n] w fun e W' => ∃ u, e = .returned u ∧ So W' w.heap.size u [] ∧ Below w.heap.size w W' := by
  have hp : (0 : Int) < (n : Int) := by omega
  have hp1 : decide ((n : Int) < 0) = false := decide_eq_false (by omega)
  go_enter Tryz.func124, Tryz.ntmps124
  go_wp2_with (first
    | (at_builtin; refine wpList_growS rfl _ _ rfl n rfl rfl h0 h1 ?_; intro cap w1 hc hO hB)
    | go_in)
  go_ret
  exact ⟨_, rfl, hO, hB⟩

set_option maxRecDepth 100000 in
set_option maxHeartbeats 8000000 in
theorem concat_calls {w : World} {g n1 n2 n3 c1 c2 c3 : Nat} {a1 a2 a3 : Option Addr} {xs1 xs2 xs3 : List Slt} (hK : Blk w g 79 #[.slice a1 n1 c1, .slice a2 n2 c2, .slice a3 n3 c3])
    (h1 : Ss w (.slice a1 n1 c1) xs1) (h2 : Ss w (.slice a2 n2 c2) xs2) (h3 : Ss w (.slice a3 n3 c3) xs3) (hp : 0 < n1 + n2 + n3) (hn : n1 + n2 + n3 ≤ 100000) :
    Calls Tryz.prog 95 #[.slice (some ⟨g, 0, none⟩) 3 3] w fun e W' => ∃ u, e = .returned u ∧ So W' w.heap.size u (xs1 ++ xs2 ++ xs3) ∧ Below w.heap.size w W' := by
  have L1 : xs1.length = n1 := by obtain ⟨_, _, e, _⟩ := h1; simp only [Value.slice.injEq] at e; exact e.2.1.symm
  have L2 : xs2.length = n2 := by obtain ⟨_, _, e, _⟩ := h2; simp only [Value.slice.injEq] at e; exact e.2.1.symm
  have L3 : xs3.length = n3 := by obtain ⟨_, _, e, _⟩ := h3; simp only [Value.slice.injEq] at e; exact e.2.1.symm
  have HL : Hid (xs1.length = n1 ∧ xs2.length = n2 ∧ xs3.length = n3) := ⟨L1, L2, L3⟩
  have H1 : Hid (Ss w (.slice a1 n1 c1) xs1) := h1
  have H2 : Hid (Ss w (.slice a2 n2 c2) xs2) := h2
  have H3 : Hid (Ss w (.slice a3 n3 c3) xs3) := h3
  have HG : Hid (∀ w, Calls Tryz.prog 124 #[.slice none 0 0, I ((n1 : Int) + (n2 : Int) + (n3 : Int))] w fun e W' => ∃ u, e = .returned u ∧ So W' w.heap.size u [] ∧ Below w.heap.size w W') := fun w => by
    have := grow_calls (n := n1 + n2 + n3) w hp hn
    rwa [show (((n1 + n2 + n3 : Nat)) : Int) = (n1 : Int) + (n2 : Int) + (n3 : Int) by omega] at this
  clear L1 L2 L3 h1 h2 h3
  have hg := hK.lt
  have HK : Hid (Blk w g 79 #[.slice a1 n1 c1, .slice a2 n2 c2, .slice a3 n3 c3]) := hK
  have k0 : w.cell? ⟨g, 0, none⟩ = some (.slice a1 n1 c1) := hK.cell 0
  have k1 : w.cell? ⟨g, 1, none⟩ = some (.slice a2 n2 c2) := hK.cell 1
  have k2 : w.cell? ⟨g, 2, none⟩ = some (.slice a3 n3 c3) := hK.cell 2
  clear hK
  obtain ⟨tgt, htgt⟩ : ∃ tgt, tgt = xs1 ++ xs2 ++ xs3 := ⟨_, rfl⟩
  have HTG : Hid (tgt = xs1 ++ xs2 ++ xs3) := htgt
  rw [← htgt]
  clear htgt
  have d1 : decide ((n1 : Int) < 0) = false := decide_eq_false (by omega)
  have d2 : decide ((n1 : Int) + (n2 : Int) < 0) = false := decide_eq_false (by omega)
  have d3 : decide ((n1 : Int) + (n2 : Int) + (n3 : Int) < 0) = false := decide_eq_false (by omega)
  go_enter Tryz.func95, Tryz.ntmps95
  go_wp2
  go_loopw [3, 11] (fun s i wr => ((i = .int .i64 0 ∧ s = I 0) ∨ (i = .int .i64 1 ∧ s = I n1) ∨ (i = .int .i64 2 ∧ s = I ((n1 : Int) + (n2 : Int))) ∨ (i = .int .i64 3 ∧ s = I ((n1 : Int) + (n2 : Int) + (n3 : Int)))) ∧ wr = w) (fun _ i _ => 3 - (RowKit.intOf i).toNat)
  case atStart => exact ⟨.inl ⟨rfl, rfl⟩, rfl⟩
  case round =>
    obtain ⟨hi, hwr⟩ := hrel
    obtain rfl := hwr.symm
    rcases hi with ⟨rfl, rfl⟩ | ⟨rfl, rfl⟩ | ⟨rfl, rfl⟩ | ⟨rfl, rfl⟩
    · go_wp2
      go_roundw
      case rel => exact ⟨.inr (.inl ⟨rfl, by go_num⟩), by trivial⟩
      case measure => simp [RowKit.intOf]
    · go_wp2
      go_roundw
      case rel => exact ⟨.inr (.inr (.inl ⟨rfl, by go_num⟩)), by trivial⟩
      case measure => simp [RowKit.intOf]
    · go_wp2
      go_roundw
      case rel => exact ⟨.inr (.inr (.inr ⟨rfl, by go_num⟩)), by trivial⟩
      case measure => simp [RowKit.intOf]
    · go_wp2_with fail
      refine (HG.out _).mono ?_
      rintro e w1 ⟨u, rfl, hO, hB1⟩
      obtain ⟨ao, cap, rfl, _⟩ := hO.ss.form
      have HO : Hid (So w1 w.heap.size (.slice ao 0 cap) []) := hO
      clear hO k0 k1 k2 hg
      go_wp2
      go_loopw [6, 27] (fun u i w2 => ∃ (ao' : Option Addr) (n' cap' : Nat) (ys : List Slt), u = .slice ao' n' cap' ∧ Hid (So w2 w.heap.size (.slice ao' n' cap') ys) ∧ ((i = .int .i64 0 ∧ Hid (ys = [])) ∨ (i = .int .i64 1 ∧ Hid (ys = xs1)) ∨ (i = .int .i64 2 ∧ Hid (ys = xs1 ++ xs2)) ∨ (i = .int .i64 3 ∧ Hid (ys = xs1 ++ xs2 ++ xs3))) ∧ Below w.heap.size w w2) (fun _ i _ => 3 - (RowKit.intOf i).toNat)
      case atStart => exact ⟨_, _, _, [], rfl, HO, .inl ⟨rfl, rfl⟩, hB1⟩
      case round =>
        obtain ⟨ao', n', cap', ys, rfl, HY, hi, hT⟩ := hrel
        have hKl := HK.out.later hT
        have k0 := hKl.cell 0
        have k1 := hKl.cell 1
        have k2 := hKl.cell 2
        have hg := hKl.lt
        clear hKl
        have hsz := hT.size
        rcases hi with ⟨rfl, HE⟩ | ⟨rfl, HE⟩ | ⟨rfl, HE⟩ | ⟨rfl, HE⟩
        · have hS := H1.out.later hT
          have hle : ys.length + xs1.length ≤ 100000 := by rw [HE.out, HL.out.1]; simp; omega
          have HE2 : Hid (ys ++ xs1 = xs1) := by show _ = _; rw [HE.out]; simp
          go_wp2_with (first
            | (at_builtin; refine wpList_catS (base := w.heap.size) (xs := ys) (ys := xs1) rfl _ _ rfl rfl rfl HY.out hS hle hsz ?_; intro ao4 n4 cap4 w4 hW4 hB4)
            | go_in)
          go_roundw
          case rel => exact ⟨_, _, _, _, rfl, hW4, .inr (.inl ⟨rfl, HE2⟩), hT.trans hB4⟩
          case measure => simp [RowKit.intOf]
        · have hS := H2.out.later hT
          have hle : ys.length + xs2.length ≤ 100000 := by rw [HE.out, HL.out.1, HL.out.2.1]; omega
          have HE2 : Hid (ys ++ xs2 = xs1 ++ xs2) := by show _ = _; rw [HE.out]
          go_wp2_with (first
            | (at_builtin; refine wpList_catS (base := w.heap.size) (xs := ys) (ys := xs2) rfl _ _ rfl rfl rfl HY.out hS hle hsz ?_; intro ao4 n4 cap4 w4 hW4 hB4)
            | go_in)
          go_roundw
          case rel => exact ⟨_, _, _, _, rfl, hW4, .inr (.inr (.inl ⟨rfl, HE2⟩)), hT.trans hB4⟩
          case measure => simp [RowKit.intOf]
        · have hS := H3.out.later hT
          have hle : ys.length + xs3.length ≤ 100000 := by rw [HE.out, List.length_append, HL.out.1, HL.out.2.1, HL.out.2.2]; omega
          have HE2 : Hid (ys ++ xs3 = xs1 ++ xs2 ++ xs3) := by show _ = _; rw [HE.out]
          go_wp2_with (first
            | (at_builtin; refine wpList_catS (base := w.heap.size) (xs := ys) (ys := xs3) rfl _ _ rfl rfl rfl HY.out hS hle hsz ?_; intro ao4 n4 cap4 w4 hW4 hB4)
            | go_in)
          go_roundw
          case rel => exact ⟨_, _, _, _, rfl, hW4, .inr (.inr (.inr ⟨rfl, HE2⟩)), hT.trans hB4⟩
          case measure => simp [RowKit.intOf]
        · have hE : tgt = ys := HTG.out.trans HE.out.symm
          subst hE
          go_wp2
          go_ret
          exact ⟨_, rfl, HY.out, hT⟩

end Go.Proofs.YtldcagjnngkabaaGreatDoor

/-
  A statement whose order the language leaves open and whose callees make memory: each operation keeps a word of its own, which lasts in every later world; so, in whatever order, at the end all words hold.
-/
namespace Go.Proofs.YtldcagjnngkabaaGreatDoor
open Go Go.RowKit Go.Shelf

section
variable {F : Fence} {n : Nat} {P : Program}

/-- How many are not listed yet. -/
theorem count_set : ∀ (l : List Bool) (i : Nat), l[i]? = some false → (l.set i true).count false + 1 = l.count false
  | [], _, h => by simp at h
  | b :: l, 0, h => by simp at h; subst h; simp
  | b :: l, i + 1, h => by
    simp at h
    have := count_set l i h
    simp [List.count_cons]
    omega

def dstOf (l : List Oper) (i : Nat) : Nat := match l[i]? with | some o => o.dst.getD 0 | none => 0
/-- Each operation writes a slot of its own, below number m; none is guarded; none defers. -/
def soloB (l : List Oper) (m : Nat) : Bool := (l.all fun o => o.guard.isNone && o.dst.isSome) && ((List.range l.length).all fun i => decide (dstOf l i < m) && (List.range l.length).all fun j => i == j || dstOf l i != dstOf l j) && noDefer l.toArray && beginB l l.length

/-- The frame a holds, outside the slots that the region writes, what a0 does. -/
structure Like (l : List Oper) (a0 a : Act) : Prop where
  size : a.tmps.size = a0.tmps.size
  defers : a.defers = a0.defers
  out : ∀ t, (∀ i, i < l.length → dstOf l i ≠ t) → a.tmps[t]? = a0.tmps[t]?

abbrev slot (l : List Oper) (a : Act) (i : Nat) : Value := a.tmps.getD (dstOf l i) undef

/-- What an operation comes to: a value, or a call. -/
def Comes (P : Program) (o : Oper) (a : Act) (w : World) (R : Value → World → Prop) : Prop :=
  (∃ v, (execOp a.eval o).run P w = .ok (.value v) w ∧ R v w) ∨ (∃ f args, (execOp a.eval o).run P w = .ok (.enter f args) w ∧ Calls P f args w fun e w' => ∃ v, e = .returned v ∧ Below w.heap.size w w' ∧ R v w')

theorem put_at {a : Act} {d : Nat} {v : Value} (h : d < a.tmps.size) : (a.put (some d) v).tmps.getD d undef = v := by
  simp [Act.put, Array.getD, h]
theorem put_ne {a : Act} {d t : Nat} {v : Value} (h : d ≠ t) : (a.put (some d) v).tmps[t]? = a.tmps[t]? := by
  simp [Act.put, Array.getElem?_setIfInBounds_ne h]
theorem getD_ne {a : Act} {d t : Nat} {v : Value} (h : d ≠ t) : (a.put (some d) v).tmps.getD t undef = a.tmps.getD t undef := by
  rw [Array.getD_eq_getD_getElem?, Array.getD_eq_getD_getElem?, put_ne h]

theorem solo_at {l : List Oper} {m i : Nat} {o : Oper} (h : soloB l m = true) (hi : l[i]? = some o) : o.guard = none ∧ o.dst = some (dstOf l i) ∧ dstOf l i < m ∧ ∀ j, j < l.length → j ≠ i → dstOf l i ≠ dstOf l j := by
  simp only [soloB, Bool.and_eq_true] at h
  obtain ⟨⟨⟨h1, h2⟩, _⟩, _⟩ := h
  obtain ⟨hlt, he⟩ := List.getElem?_eq_some_iff.1 hi
  have k1 := List.all_eq_true.1 h1 o (he ▸ List.getElem_mem hlt)
  simp only [Bool.and_eq_true, Option.isNone_iff_eq_none] at k1
  have k2 := List.all_eq_true.1 h2 i (List.mem_range.2 hlt)
  simp only [Bool.and_eq_true, decide_eq_true_eq] at k2
  refine ⟨k1.1, ?_, k2.1, fun j hj hne => ?_⟩
  · obtain ⟨d, hd⟩ := Option.isSome_iff_exists.1 k1.2
    simp [dstOf, hi, hd]
  · have := List.all_eq_true.1 k2.2 j (List.mem_range.2 hj)
    simp only [Bool.or_eq_true, beq_iff_eq, bne_iff_ne] at this
    rcases this with e | e
    · exact absurd e.symm hne
    · exact e

variable {l : List Oper} {a0 : Act} {w0 : World} {Q : Exit → Act → World → Prop} {S : Nat → Value → World → Prop}

theorem any_loud (hF : Loose F P) (hB : soloB l a0.tmps.size = true)
    (hS : ∀ i v w w', S i v w → Below w.heap.size w w' → S i v w')
    (hop : ∀ (i : Nat) (o : Oper), l[i]? = some o → ∀ (a : Act) (w : World), Below w0.heap.size w0 w → Like l a0 a → (∀ e ∈ o.after, Region.binds .any e = true → S e.on (slot l a e.on) w) → Comes P o a w (S i))
    (hend : ∀ (a : Act) (w : World), Below w0.heap.size w0 w → Like l a0 a → (∀ i, i < l.length → S i (slot l a i) w) → Q .normal a w) :
    ∀ (f : Nat) (L : Array Bool) (a : Act) (w : World), L.size = l.length → L.toList.count false ≤ f → Below w0.heap.size w0 w → Like l a0 a → (∀ i, L.getD i false = true → S i (slot l a i) w) → wpAnyIn F n P .any l.toArray Q f L a w := by
  have hbeg : beginB l l.length = true := (Bool.and_eq_true_iff.1 hB).2
  have hnd : noDefer l.toArray = true := (Bool.and_eq_true_iff.1 (Bool.and_eq_true_iff.1 hB).1).2
  have htake : l.take l.length = l := List.take_length
  have fin : ∀ (L : Array Bool) (a : Act) (w : World), L.size = l.length → Region.ready .any l.toArray L = [] → Below w0.heap.size w0 w → Like l a0 a → (∀ i, L.getD i false = true → S i (slot l a i) w) → Q .normal a w := by
    intro L a w hs hr hT hL hA
    have hfull := full_of_none (l := l) (m := l.length) hbeg hs (by rw [htake]; exact hr)
    refine hend a w hT hL fun i hi => hA i ?_
    rw [hfull]
    simp [Array.getD, hi]
  intro f
  induction f with
  | zero =>
    intro L a w hs hc hT hL hA
    have hall : Region.ready .any l.toArray L = [] := by
      apply List.eq_nil_iff_forall_not_mem.2
      intro i hi
      obtain ⟨h1, _⟩ := mem_ready.1 hi
      have h0 : L.toList.count false = 0 := by omega
      rw [List.count_eq_zero] at h0
      refine h0 ?_
      by_cases hlt : i < L.size
      · rw [Array.getD, dif_pos hlt] at h1
        rw [← h1]
        exact Array.getElem_mem_toList hlt
      · rw [Array.getD, dif_neg hlt] at h1; cases h1
    exact ⟨hall, fin L a w hs hall hT hL hA⟩
  | succ f ih =>
    intro L a w hs hc hT hL hA
    refine ⟨fun hr => fin L a w hs hr hT hL hA, fun i hi => ?_⟩
    obtain ⟨h1, o, ho, hall⟩ := mem_ready.1 hi
    have hol : l[i]? = some o := by simpa using ho
    have hil : i < l.length := (List.getElem?_eq_some_iff.1 hol).1
    obtain ⟨hg, hd, hlt, hne⟩ := solo_at hB hol
    have hcome := hop i o hol a w hT hL (fun e he hb => hA e.on (hall e he hb))
    have hnot : L.toList[i]? = some false := by
      have hlt' : i < L.size := by omega
      rw [Array.getD, dif_pos hlt'] at h1
      rw [Array.getElem?_toList, Array.getElem?_eq_getElem hlt']
      exact congrArg some h1
    have hnext : ∀ (v : Value) (w' : World), Below w.heap.size w w' → S i v w' → wpAnyIn F n P .any l.toArray Q f (L.setIfInBounds i true) (a.put o.dst v) w' := by
      intro v w' hB' hv
      rw [hd]
      refine ih _ _ w' (by simpa using hs) ?_ (then_below hT hB') ⟨?_, ?_, ?_⟩ ?_
      · have := count_set L.toList i hnot
        rw [Array.toList_setIfInBounds]
        omega
      · simp [Act.put]; exact hL.size
      · simp [Act.put]; exact hL.defers
      · intro t ht
        rw [put_ne (ht i hil)]
        exact hL.out t ht
      · intro j hj
        by_cases hij : j = i
        · subst hij
          show S j ((a.put (some (dstOf l j)) v).tmps.getD (dstOf l j) undef) w'
          rw [put_at (by rw [hL.size]; exact hlt)]
          exact hv
        · have hjl : L.getD j false = true := by
            rw [Array.getD_eq_getD_getElem?, Array.getElem?_setIfInBounds_ne (Ne.symm hij), ← Array.getD_eq_getD_getElem?] at hj
            exact hj
          have hjlt : j < l.length := by
            rcases Nat.lt_or_ge j L.size with h | h
            · omega
            · rw [Array.getD, dif_neg (by omega)] at hjl; cases hjl
          show S j ((a.put (some (dstOf l i)) v).tmps.getD (dstOf l j) undef) w'
          rw [getD_ne (hne j hjlt hij)]
          exact hS _ _ _ _ (hA j hjl) hB'
    have hfn : ∀ f, o.about P w a.eval = some f → F.fn f := fun f _ => hF.fn f
    simp only [wpOpIn, ho, Region.wanted, hg, if_true]
    refine ⟨hfn, ?_⟩
    rw [Oper.semAt_eq _ _ _ (noDefer_spec hnd ho)]
    rcases hcome with ⟨v, e, hv⟩ | ⟨g, args, e, hc'⟩
    · rw [e]; exact hnext v w (Below.refl _ _) hv
    · rw [e]
      refine ⟨fun hx => (hF.depth hx).elim, hF.calls _ _ _ _ _ (hc'.mono ?_)⟩
      rintro x w' ⟨v, rfl, hB', hv⟩
      exact hnext v w' hB' hv

/-- All slots of the region, put one behind the other in the text's order. -/
theorem like_puts {a : Act} (hL : Like l a0 a) : a = (List.range l.length).foldl (fun b i => b.put (some (dstOf l i)) (slot l a i)) a0 := by
  have key : ∀ k, k ≤ l.length → ∀ b, b = (List.range k).foldl (fun b i => b.put (some (dstOf l i)) (slot l a i)) a0 → b.tmps.size = a0.tmps.size ∧ b.defers = a0.defers ∧ ∀ t, t < a0.tmps.size → b.tmps[t]? = if (∃ i, i < k ∧ dstOf l i = t) then a.tmps[t]? else a0.tmps[t]? := by
    intro k
    induction k with
    | zero => rintro _ b rfl; simp
    | succ k ih =>
      rintro hk b rfl
      obtain ⟨h1, h2, h3⟩ := ih (by omega) _ rfl
      rw [List.range_succ, List.foldl_append]
      simp only [List.foldl_cons, List.foldl_nil]
      generalize (List.range k).foldl (fun b i => b.put (some (dstOf l i)) (slot l a i)) a0 = b at h1 h2 h3
      refine ⟨by simp [Act.put, h1], by simp [Act.put, h2], fun t ht => ?_⟩
      by_cases hd : dstOf l k = t
      · rw [if_pos ⟨k, by omega, hd⟩]
        subst hd
        have hlt : dstOf l k < b.tmps.size := by omega
        have hlt2 : dstOf l k < a.tmps.size := by rw [hL.size]; omega
        simp [Act.put, slot, Array.getD, hlt, hlt2]
      · rw [put_ne hd, h3 t ht]
        by_cases he : ∃ i, i < k ∧ dstOf l i = t
        · obtain ⟨i, hi, hit⟩ := he
          rw [if_pos ⟨i, hi, hit⟩, if_pos ⟨i, by omega, hit⟩]
        · rw [if_neg he, if_neg]
          rintro ⟨i, hi, hit⟩
          rcases Nat.lt_succ_iff_lt_or_eq.1 hi with h | rfl
          · exact he ⟨i, h, hit⟩
          · exact hd hit
  obtain ⟨h1, h2, h3⟩ := key l.length (Nat.le_refl _) _ rfl
  generalize (List.range l.length).foldl (fun b i => b.put (some (dstOf l i)) (slot l a i)) a0 = b at h1 h2 h3
  have ht : a.tmps = b.tmps := by
    apply Array.ext_getElem?
    intro t
    by_cases hlt : t < a0.tmps.size
    · rw [h3 t hlt]
      by_cases he : ∃ i, i < l.length ∧ dstOf l i = t
      · rw [if_pos he]
      · rw [if_neg he]
        exact hL.out t fun i hi hit => he ⟨i, hi, hit⟩
    · rw [Array.getElem?_eq_none (by rw [hL.size]; omega), Array.getElem?_eq_none (by omega)]
  have hd : a.defers = b.defers := by rw [hL.defers, h2]
  cases a; cases b; simp_all

/-- In whatever order: each operation's word holds at the end. -/
theorem wp_region_loud {id : Nat} (S : Nat → Value → World → Prop) (hm : P.follows .mixedOrders = true) (hB : soloB l a0.tmps.size = true)
    (hS : ∀ i v w w', S i v w → Below w.heap.size w w' → S i v w')
    (hop : ∀ (i : Nat) (o : Oper), l[i]? = some o → ∀ (a : Act) (w : World), Below w0.heap.size w0 w → Like l a0 a → (∀ e ∈ o.after, Region.binds .any e = true → S e.on (slot l a e.on) w) → Comes P o a w (S i))
    (hend : ∀ (v : Nat → Value) (w : World), Below w0.heap.size w0 w → (∀ i, i < l.length → S i (v i) w) → Q .normal ((List.range l.length).foldl (fun b i => b.put (some (dstOf l i)) (v i)) a0) w) :
    (Code.region id l.toArray true).wp P Q a0 w0 := by
  refine (wpIn_wide (n := 0)).1 (wpIn_region_any hm ?_)
  refine any_loud (loose_wide P) hB hS hop (fun a w hT hL hA => ?_) _ _ _ _ (by simp) (by simp) ((Below.refl _ w0).drew) ⟨rfl, rfl, fun _ _ => rfl⟩ (fun i hi => ?_)
  · rw [like_puts hL]
    exact hend (slot l a) w hT hA
  · exfalso
    rw [Array.getD_eq_getD_getElem?] at hi
    simp [Array.getElem?_replicate] at hi
    split at hi <;> simp at hi
end
end Go.Proofs.YtldcagjnngkabaaGreatDoor

/-
  As Loud, where an operation itself may make memory too (a slice written out).
-/
namespace Go.Proofs.YtldcagjnngkabaaGreatDoor
open Go Go.RowKit Go.Shelf

section
variable {F : Fence} {n : Nat} {P : Program}

/-- What an operation comes to: a value, or a value and new memory, or a call. -/
def Comes2 (P : Program) (o : Oper) (a : Act) (w : World) (R : Value → World → Prop) : Prop :=
  (∃ v w', (execOp a.eval o).run P w = .ok (.value v) w' ∧ Below w.heap.size w w' ∧ R v w') ∨ (∃ f args, (execOp a.eval o).run P w = .ok (.enter f args) w ∧ Calls P f args w fun e w' => ∃ v, e = .returned v ∧ Below w.heap.size w w' ∧ R v w')

variable {l : List Oper} {a0 : Act} {w0 : World} {Q : Exit → Act → World → Prop} {S : Nat → Value → World → Prop}

theorem any_loud2 (hF : Loose F P) (hB : soloB l a0.tmps.size = true)
    (hS : ∀ i v w w', S i v w → Below w.heap.size w w' → S i v w')
    (hop : ∀ (i : Nat) (o : Oper), l[i]? = some o → ∀ (a : Act) (w : World), Below w0.heap.size w0 w → Like l a0 a → (∀ e ∈ o.after, Region.binds .any e = true → S e.on (slot l a e.on) w) → Comes2 P o a w (S i))
    (hend : ∀ (a : Act) (w : World), Below w0.heap.size w0 w → Like l a0 a → (∀ i, i < l.length → S i (slot l a i) w) → Q .normal a w) :
    ∀ (f : Nat) (L : Array Bool) (a : Act) (w : World), L.size = l.length → L.toList.count false ≤ f → Below w0.heap.size w0 w → Like l a0 a → (∀ i, L.getD i false = true → S i (slot l a i) w) → wpAnyIn F n P .any l.toArray Q f L a w := by
  have hbeg : beginB l l.length = true := (Bool.and_eq_true_iff.1 hB).2
  have hnd : noDefer l.toArray = true := (Bool.and_eq_true_iff.1 (Bool.and_eq_true_iff.1 hB).1).2
  have htake : l.take l.length = l := List.take_length
  have fin : ∀ (L : Array Bool) (a : Act) (w : World), L.size = l.length → Region.ready .any l.toArray L = [] → Below w0.heap.size w0 w → Like l a0 a → (∀ i, L.getD i false = true → S i (slot l a i) w) → Q .normal a w := by
    intro L a w hs hr hT hL hA
    have hfull := full_of_none (l := l) (m := l.length) hbeg hs (by rw [htake]; exact hr)
    refine hend a w hT hL fun i hi => hA i ?_
    rw [hfull]
    simp [Array.getD, hi]
  intro f
  induction f with
  | zero =>
    intro L a w hs hc hT hL hA
    have hall : Region.ready .any l.toArray L = [] := by
      apply List.eq_nil_iff_forall_not_mem.2
      intro i hi
      obtain ⟨h1, _⟩ := mem_ready.1 hi
      have h0 : L.toList.count false = 0 := by omega
      rw [List.count_eq_zero] at h0
      refine h0 ?_
      by_cases hlt : i < L.size
      · rw [Array.getD, dif_pos hlt] at h1
        rw [← h1]
        exact Array.getElem_mem_toList hlt
      · rw [Array.getD, dif_neg hlt] at h1; cases h1
    exact ⟨hall, fin L a w hs hall hT hL hA⟩
  | succ f ih =>
    intro L a w hs hc hT hL hA
    refine ⟨fun hr => fin L a w hs hr hT hL hA, fun i hi => ?_⟩
    obtain ⟨h1, o, ho, hall⟩ := mem_ready.1 hi
    have hol : l[i]? = some o := by simpa using ho
    have hil : i < l.length := (List.getElem?_eq_some_iff.1 hol).1
    obtain ⟨hg, hd, hlt, hne⟩ := solo_at hB hol
    have hcome := hop i o hol a w hT hL (fun e he hb => hA e.on (hall e he hb))
    have hnot : L.toList[i]? = some false := by
      have hlt' : i < L.size := by omega
      rw [Array.getD, dif_pos hlt'] at h1
      rw [Array.getElem?_toList, Array.getElem?_eq_getElem hlt']
      exact congrArg some h1
    have hnext : ∀ (v : Value) (w' : World), Below w.heap.size w w' → S i v w' → wpAnyIn F n P .any l.toArray Q f (L.setIfInBounds i true) (a.put o.dst v) w' := by
      intro v w' hB' hv
      rw [hd]
      refine ih _ _ w' (by simpa using hs) ?_ (then_below hT hB') ⟨?_, ?_, ?_⟩ ?_
      · have := count_set L.toList i hnot
        rw [Array.toList_setIfInBounds]
        omega
      · simp [Act.put]; exact hL.size
      · simp [Act.put]; exact hL.defers
      · intro t ht
        rw [put_ne (ht i hil)]
        exact hL.out t ht
      · intro j hj
        by_cases hij : j = i
        · subst hij
          show S j ((a.put (some (dstOf l j)) v).tmps.getD (dstOf l j) undef) w'
          rw [put_at (by rw [hL.size]; exact hlt)]
          exact hv
        · have hjl : L.getD j false = true := by
            rw [Array.getD_eq_getD_getElem?, Array.getElem?_setIfInBounds_ne (Ne.symm hij), ← Array.getD_eq_getD_getElem?] at hj
            exact hj
          have hjlt : j < l.length := by
            rcases Nat.lt_or_ge j L.size with h | h
            · omega
            · rw [Array.getD, dif_neg (by omega)] at hjl; cases hjl
          show S j ((a.put (some (dstOf l i)) v).tmps.getD (dstOf l j) undef) w'
          rw [getD_ne (hne j hjlt hij)]
          exact hS _ _ _ _ (hA j hjl) hB'
    have hfn : ∀ f, o.about P w a.eval = some f → F.fn f := fun f _ => hF.fn f
    simp only [wpOpIn, ho, Region.wanted, hg, if_true]
    refine ⟨hfn, ?_⟩
    rw [Oper.semAt_eq _ _ _ (noDefer_spec hnd ho)]
    rcases hcome with ⟨v, w', e, hB', hv⟩ | ⟨g, args, e, hc'⟩
    · rw [e]; exact hnext v w' hB' hv
    · rw [e]
      refine ⟨fun hx => (hF.depth hx).elim, hF.calls _ _ _ _ _ (hc'.mono ?_)⟩
      rintro x w' ⟨v, rfl, hB', hv⟩
      exact hnext v w' hB' hv

/-- In whatever order: each operation's word holds at the end. -/
theorem wp_region_loud2 {id : Nat} (S : Nat → Value → World → Prop) (hm : P.follows .mixedOrders = true) (hB : soloB l a0.tmps.size = true)
    (hS : ∀ i v w w', S i v w → Below w.heap.size w w' → S i v w')
    (hop : ∀ (i : Nat) (o : Oper), l[i]? = some o → ∀ (a : Act) (w : World), Below w0.heap.size w0 w → Like l a0 a → (∀ e ∈ o.after, Region.binds .any e = true → S e.on (slot l a e.on) w) → Comes2 P o a w (S i))
    (hend : ∀ (v : Nat → Value) (w : World), Below w0.heap.size w0 w → (∀ i, i < l.length → S i (v i) w) → Q .normal ((List.range l.length).foldl (fun b i => b.put (some (dstOf l i)) (v i)) a0) w) :
    (Code.region id l.toArray true).wp P Q a0 w0 := by
  refine (wpIn_wide (n := 0)).1 (wpIn_region_any hm ?_)
  refine any_loud2 (loose_wide P) hB hS hop (fun a w hT hL hA => ?_) _ _ _ _ (by simp) (by simp) ((Below.refl _ w0).drew) ⟨rfl, rfl, fun _ _ => rfl⟩ (fun i hi => ?_)
  · rw [like_puts hL]
    exact hend (slot l a) w hT hA
  · exfalso
    rw [Array.getD_eq_getD_getElem?] at hi
    simp [Array.getElem?_replicate] at hi
    split at hi <;> simp at hi
end
end Go.Proofs.YtldcagjnngkabaaGreatDoor

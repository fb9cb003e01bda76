/-
  The document's Less, Ended, With (tidehallref08): what each call answers.
-/
import Derived.Test.YtabhlmckncgdjaaPart6
import Derived.Test.YtabhlmckncgdjaaPart7
import Derived.Test.YtabhlmckncgdjaaPart8
namespace Go.Proofs.Ytabhlmckncgdjaa
open Go Go.RowKit Go.Shelf

attribute [local go_sem] Oper.semAt_some ext_const

set_option maxRecDepth 100000 in
set_option maxHeartbeats 8000000 in
theorem rended_calls {xs : List Slt} {v : Value} {ow to : Int} (w : World) (hS : Ss w v xs) (hn : xs.length ≤ 100000) : Calls Try.prog 93 #[v, I ow, I to] w fun e W' => ∃ u, e = .returned u ∧ So W' w.heap.size u (endedC xs ow to) ∧ Below w.heap.size w W' := by
  obtain ⟨ao, cap, rfl, hS⟩ := hS.form
  have HS : Hid (Ss w (.slice ao xs.length cap) xs) := hS
  clear hS
  have HE : Hid ((xs.take xs.length).filterMap (cutS ow to) = endedC xs ow to) := by show _ = _; rw [List.take_length]; rfl
  generalize endedC xs ow to = tgt at HE ⊢
  go_enter Try.func93, Try.ntmps93
  go_wp2
  go_loopw [7, 8] (fun u i wr => ∃ (k : Nat) (ao' : Option Addr) (n' cap' : Nat) (ys : List Slt), k ≤ xs.length ∧ i = .int .i64 k ∧ u = .slice ao' n' cap' ∧ Hid (So wr w.heap.size (.slice ao' n' cap') ys) ∧ Hid (ys = (xs.take k).filterMap (cutS ow to)) ∧ Below w.heap.size w wr) (fun _ i _ => xs.length - (intOf i).toNat)
  case atStart => exact ⟨0, _, _, _, [], by omega, rfl, rfl, So.nil _ _, by show _ = _; simp, Below.refl _ _⟩
  case round =>
    obtain ⟨k, ao', n', cap', ys, hk, rfl, rfl, HY, HF, hT⟩ := hrel
    by_cases hlt : (k : Int) < (xs.length : Int)
    · have hk' : k < xs.length := by omega
      obtain ⟨g, off, f, t, o, rfl, hu, ha⟩ := (HS.out.later hT).at hk'
      obtain ⟨hg, c0, c1, c2⟩ := ha.cells
      have HU : Hid ((xs.take (k + 1)).filterMap (cutS ow to) = ys ++ (cutS ow to (f, t, o)).toList) := by show _ = _; rw [fm_snoc hk' hu, HF.out]
      have hyl : ys.length ≤ 100000 := by rw [HF.out]; exact Nat.le_trans fm_len hn
      have hBN : ∀ x : Int, Below wr.heap.size wr (wr.alloc (.cells (C3 f x o) 52)) := fun x => (Below.refl _ wr).alloc (Nat.le_refl _) _
      have HY3 : Hid (∀ x : Int, So (wr.alloc (.cells (C3 f x o) 52)) w.heap.size (.slice ao' n' cap') ys) := fun x => HY.out.later (hBN x)
      have HT3 : Hid (∀ x : Int, Below w.heap.size w (wr.alloc (.cells (C3 f x o) 52))) := fun x => then_below hT (hBN x)
      have hz3 : ∀ x : Int, w.heap.size ≤ (wr.alloc (.cells (C3 f x o) 52)).heap.size := fun x => Nat.le_trans hT.size (hBN x).size
      have HZ : Hid (∀ x : Int, w.heap.size ≤ (wr.alloc (.cells (C3 f x o) 52)).heap.size) := hz3
      clear hu ha hBN hz3
      by_cases ho : o = ow
      · have hob : (o == ow) = true := by simpa using ho
        by_cases h1 : to ≤ f
        · have HK : Hid (ys = (xs.take (k + 1)).filterMap (cutS ow to)) := by show _ = _; rw [HU.out, cutS, if_pos ⟨ho, h1⟩]; simp
          clear HU ho
          go_wp2
          go_roundw
          case rel => exact ⟨k + 1, _, _, _, ys, by omega, by go_num, rfl, HY3.out t, HK, HT3.out t⟩
          case measure => simp [intOf]; omega
        · by_cases h2 : to < t
          · have HK : Hid (ys ++ [(f, to, o)] = (xs.take (k + 1)).filterMap (cutS ow to)) := by show _ = _; rw [HU.out, cutS, if_neg (fun h => h1 h.2), if_pos ⟨ho, h2⟩]; simp
            have h1 : decide (to ≤ f) = false := decide_eq_false h1
            clear HU ho
            go_wp2_with (first
              | (at_builtin; refine wpList_appS (base := w.heap.size) (xs := ys) rfl _ _ rfl rfl rfl (by simp) (HY3.out to) hyl (HZ.out to) ?_; intro ao4 n4 cap4 w4 hW4 hB4)
              | go_in)
            go_roundw
            case rel => exact ⟨k + 1, _, _, _, _, by omega, by go_num, rfl, hW4, HK, (HT3.out to).trans hB4⟩
            case measure => simp [intOf]; omega
          · have HK : Hid (ys ++ [(f, t, o)] = (xs.take (k + 1)).filterMap (cutS ow to)) := by show _ = _; rw [HU.out, cutS, if_neg (fun h => h1 h.2), if_neg (fun h => h2 h.2)]; simp
            have h1 : decide (to ≤ f) = false := decide_eq_false h1
            have h2 : decide (to < t) = false := decide_eq_false h2
            clear HU ho
            go_wp2_with (first
              | (at_builtin; refine wpList_appS (base := w.heap.size) (xs := ys) rfl _ _ rfl rfl rfl (by simp) (HY3.out t) hyl (HZ.out t) ?_; intro ao4 n4 cap4 w4 hW4 hB4)
              | go_in)
            go_roundw
            case rel => exact ⟨k + 1, _, _, _, _, by omega, by go_num, rfl, hW4, HK, (HT3.out t).trans hB4⟩
            case measure => simp [intOf]; omega
      · have HK : Hid (ys ++ [(f, t, o)] = (xs.take (k + 1)).filterMap (cutS ow to)) := by show _ = _; rw [HU.out, cutS, if_neg (fun h => ho h.1), if_neg (fun h => ho h.1)]; simp
        have hob : (o == ow) = false := by simpa using ho
        clear HU ho
        go_wp2_with (first
          | (at_builtin; refine wpList_appS (base := w.heap.size) (xs := ys) rfl _ _ rfl rfl rfl (by simp) (HY3.out t) hyl (HZ.out t) ?_; intro ao4 n4 cap4 w4 hW4 hB4)
          | go_in)
        go_roundw
        case rel => exact ⟨k + 1, _, _, _, _, by omega, by go_num, rfl, hW4, HK, (HT3.out t).trans hB4⟩
        case measure => simp [intOf]; omega
    · obtain rfl : k = xs.length := by omega
      have hE : ys = tgt := HF.out.trans HE.out
      subst hE
      have HY2 : Hid (So wr w.heap.size (.slice ao' n' cap') ys) := HY
      go_wp2
      go_ret
      exact ⟨_, rfl, HY2.out, hT⟩

/-- How With goes on. -/
structure Wst (s : Slt) (l out : List Slt) (d : Bool) : Prop where
  no : d = false → (∀ y ∈ l, ¬ s.1 < y.1) ∧ out = l
  yes : d = true → (∃ y ∈ l, s.1 < y.1) ∧ out = withC s l
theorem withC_past {s : Slt} : ∀ {l : List Slt} (m : List Slt), (∀ y ∈ l, ¬ s.1 < y.1) → withC s (l ++ m) = l ++ withC s m
  | [], _, _ => rfl
  | y :: r, m, h => by
    rw [List.cons_append, withC, if_neg (h y (by simp)), withC_past m fun z hz => h z (by simp [hz])]
    rfl
theorem withC_app {s : Slt} : ∀ {l : List Slt} (m : List Slt), (∃ y ∈ l, s.1 < y.1) → withC s (l ++ m) = withC s l ++ m
  | [], _, h => by obtain ⟨y, hy, _⟩ := h; cases hy
  | y :: r, m, h => by
    rw [List.cons_append, withC, withC]
    by_cases hy : s.1 < y.1
    · rw [if_pos hy, if_pos hy]; rfl
    · rw [if_neg hy, if_neg hy, withC_app m]
      · rfl
      · obtain ⟨z, hz, hz2⟩ := h
        rcases List.mem_cons.1 hz with rfl | hz
        · exact absurd hz2 hy
        · exact ⟨z, hz, hz2⟩
theorem Wst.start (s : Slt) : Wst s [] [] false := ⟨fun _ => ⟨fun y hy => (by cases hy), rfl⟩, fun h => (by cases h)⟩
theorem Wst.on {s x : Slt} {l out : List Slt} (h : Wst s l out true) : Wst s (l ++ [x]) (out ++ [x]) true := by
  obtain ⟨⟨y, hy, hy2⟩, e⟩ := h.yes rfl
  exact ⟨fun h => (by cases h), fun _ => ⟨⟨y, by simp [hy], hy2⟩, by rw [withC_app _ ⟨y, hy, hy2⟩, e]⟩⟩
theorem Wst.skip {s x : Slt} {l out : List Slt} (h : Wst s l out false) (hx : ¬ s.1 < x.1) : Wst s (l ++ [x]) (out ++ [x]) false := by
  obtain ⟨h1, h2⟩ := h.no rfl
  refine ⟨fun _ => ⟨fun y hy => ?_, by rw [h2]⟩, fun h => (by cases h)⟩
  rcases List.mem_append.1 hy with hy | hy
  · exact h1 y hy
  · rw [List.mem_singleton.1 hy]; exact hx
theorem Wst.hit {s x : Slt} {l out : List Slt} (h : Wst s l out false) (hx : s.1 < x.1) : Wst s (l ++ [x]) (out ++ [s] ++ [x]) true := by
  obtain ⟨h1, h2⟩ := h.no rfl
  refine ⟨fun h => (by cases h), fun _ => ⟨⟨x, by simp, hx⟩, ?_⟩⟩
  rw [withC_past _ h1, h2, withC, if_pos hx]
  simp
theorem Wst.end0 {s : Slt} {l out : List Slt} (h : Wst s l out false) : out ++ [s] = withC s l := by
  obtain ⟨h1, h2⟩ := h.no rfl
  have := withC_past (s := s) [] h1
  rw [List.append_nil] at this
  rw [this, h2]
  rfl
theorem Wst.end1 {s : Slt} {l out : List Slt} (h : Wst s l out true) : out = withC s l := (h.yes rfl).2
theorem Wst.few {s : Slt} {l out : List Slt} {d : Bool} (h : Wst s l out d) : out.length ≤ l.length + 1 := by
  cases d
  · rw [(h.no rfl).2]; omega
  · rw [(h.yes rfl).2, withC_len]; omega

set_option maxRecDepth 100000 in
set_option maxHeartbeats 8000000 in
theorem rwith_calls {xs : List Slt} {v : Value} {x y z : Int} (w : World) (hS : Ss w v xs) (hn : xs.length ≤ 10000) : Calls Try.prog 89 #[v, V3 x y z] w fun e W' => ∃ u, e = .returned u ∧ So W' w.heap.size u (withC (x, y, z) xs) ∧ Below w.heap.size w W' := by
  have hmx : Try.prog.follows .mixedOrders = true := by kernel_rfl
  obtain ⟨ao, cap, rfl, hS⟩ := hS.form
  obtain ⟨W, hW, hB, hK⟩ := one_start w (C3 x y z) 52
  have HW : Hid (w.alloc (.cells (C3 x y z) 52) = W) := hW
  have HS : Hid (Ss W (.slice ao xs.length cap) xs) := hS.later hB
  clear hS hW
  have H0 : Hid (∀ out, Wst (x, y, z) xs out false → out ++ [(x, y, z)] = withC (x, y, z) xs) := fun out h => h.end0
  have H1 : Hid (∀ out, Wst (x, y, z) xs out true → out = withC (x, y, z) xs) := fun out h => h.end1
  generalize withC (x, y, z) xs = tgt at H0 H1 ⊢
  go_enter Try.func89, Try.ntmps89
  go_wp2
  rw [HW.out]
  go_loopw [5, 6, 7] (fun u dn i wr => ∃ (k : Nat) (d : Bool) (ao' : Option Addr) (n' cap' : Nat) (ys : List Slt), k ≤ xs.length ∧ i = .int .i64 k ∧ dn = .bool d ∧ u = .slice ao' n' cap' ∧ Hid (So wr W.heap.size (.slice ao' n' cap') ys) ∧ Hid (Wst (x, y, z) (xs.take k) ys d) ∧ Below W.heap.size W wr) (fun _ _ i _ => xs.length - (intOf i).toNat)
  case atStart => exact ⟨0, false, _, _, _, [], by omega, rfl, rfl, rfl, So.nil _ _, Wst.start _, Below.refl _ _⟩
  case round =>
    obtain ⟨k, d, ao', n', cap', ys, hk, rfl, rfl, rfl, HY, HF, hT⟩ := hrel
    have hyl : ys.length ≤ 50000 := by have := HF.out.few; rw [List.length_take] at this; omega
    by_cases hlt : (k : Int) < (xs.length : Int)
    · have hk' : k < xs.length := by omega
      obtain ⟨g, off, f, t, o, rfl, hu, ha⟩ := (HS.out.later hT).at hk'
      have HU : Hid (xs.take (k + 1) = xs.take k ++ [(f, t, o)]) := take_snoc hk' hu
      obtain ⟨gS, _, _, _⟩ := (HS.out).at hk'
      have hgW : g < W.heap.size := by
        obtain ⟨g2, off2, _, _, _, e2, _, ha2⟩ := (HS.out).at hk'
        simp only [Option.some.injEq, Addr.mk.injEq] at e2
        rw [e2.1]; exact ha2.1
      obtain ⟨e0, e1, e2⟩ := ha.ext
      have b0 : ∀ X : Ext wr, X.wd.cell? ⟨w.heap.size, 0, none⟩ = some (.int .i64 x) := fun X => (hK.later (then_below hT X.le)).cell 0
      clear hu
      cases d
      · by_cases hq : x < f
        · have HN : Hid (Wst (x, y, z) (xs.take (k + 1)) (ys ++ [(x, y, z)] ++ [(f, t, o)]) true) := by show Wst _ _ _ _; rw [HU.out]; exact HF.out.hit hq
          go_wp2
          refine wp_region_look hmx (by kernel_rfl) ?_
          repeat (go_big_quiet_step (fail))
          refine wpQuiet_nil ?_
          intro X
          have hT1 := then_below hT X.le
          have hat1 := ha.later X.le
          have HY1 : Hid (So X.wd W.heap.size (.slice ao' n' cap') ys) := HY.out.later X.le
          clear e0 e1 e2 b0 ha HY
          generalize X.wd = w1 at *
          obtain ⟨hz, c0, c1, c2⟩ := hat1.cells
          obtain ⟨hz', d0, d1, d2⟩ := (hK.later hT1).at3.cells
          have hsz := hT1.size
          have hyl0 : ys.length ≤ 100000 := by omega
          go_wp2_with (first
            | (at_builtin; refine wpList_appS (base := W.heap.size) (xs := ys ++ [(x, y, z)]) rfl _ _ rfl rfl rfl rfl hW3 hl3 hz3 ?_; intro ao4 n4 cap4 w4 hW4 hB4)
            | (at_builtin; refine wpList_appS (base := W.heap.size) (xs := ys) rfl _ _ rfl rfl rfl rfl HY1.out hyl0 hsz ?_; intro ao3 n3 cap3 w3 hW3 hB3
               obtain ⟨hq0, h0, h1, h2⟩ := (hat1.below hB3 hgW).cells
               have hz3 := Nat.le_trans hsz hB3.size
               have hl3 : (ys ++ [(x, y, z)]).length ≤ 100000 := by simp; omega)
            | go_in)
          go_roundw
          case rel => exact ⟨k + 1, true, _, _, _, _, by omega, by go_num, rfl, rfl, hW4, HN, hT1.trans (hB3.trans hB4)⟩
          case measure => simp [intOf]; omega
        · have HN : Hid (Wst (x, y, z) (xs.take (k + 1)) (ys ++ [(f, t, o)]) false) := by show Wst _ _ _ _; rw [HU.out]; exact HF.out.skip hq
          have hq : decide (x < f) = false := decide_eq_false hq
          go_wp2
          refine wp_region_look hmx (by kernel_rfl) ?_
          repeat (go_big_quiet_step (fail))
          refine wpQuiet_nil ?_
          intro X
          have hT1 := then_below hT X.le
          have hat1 := ha.later X.le
          have HY1 : Hid (So X.wd W.heap.size (.slice ao' n' cap') ys) := HY.out.later X.le
          clear e0 e1 e2 b0 ha HY
          generalize X.wd = w1 at *
          obtain ⟨hz, c0, c1, c2⟩ := hat1.cells
          have hsz := hT1.size
          have hyl0 : ys.length ≤ 100000 := by omega
          go_wp2_with (first
            | (at_builtin; refine wpList_appS (base := W.heap.size) (xs := ys) rfl _ _ rfl rfl rfl rfl HY1.out hyl0 hsz ?_; intro ao3 n3 cap3 w3 hW3 hB3)
            | go_in)
          go_roundw
          case rel => exact ⟨k + 1, false, _, _, _, _, by omega, by go_num, rfl, rfl, hW3, HN, hT1.trans hB3⟩
          case measure => simp [intOf]; omega
      · have HN : Hid (Wst (x, y, z) (xs.take (k + 1)) (ys ++ [(f, t, o)]) true) := by show Wst _ _ _ _; rw [HU.out]; exact HF.out.on
        go_wp2
        refine wp_region_look hmx (by kernel_rfl) ?_
        repeat (go_big_quiet_step (fail))
        refine wpQuiet_nil ?_
        intro X
        have hT1 := then_below hT X.le
        have hat1 := ha.later X.le
        have HY1 : Hid (So X.wd W.heap.size (.slice ao' n' cap') ys) := HY.out.later X.le
        clear e0 e1 e2 b0 ha HY
        generalize X.wd = w1 at *
        obtain ⟨hz, c0, c1, c2⟩ := hat1.cells
        have hsz := hT1.size
        have hyl0 : ys.length ≤ 100000 := by omega
        go_wp2_with (first
          | (at_builtin; refine wpList_appS (base := W.heap.size) (xs := ys) rfl _ _ rfl rfl rfl rfl HY1.out hyl0 hsz ?_; intro ao3 n3 cap3 w3 hW3 hB3)
          | go_in)
        go_roundw
        case rel => exact ⟨k + 1, true, _, _, _, _, by omega, by go_num, rfl, rfl, hW3, HN, hT1.trans hB3⟩
        case measure => simp [intOf]; omega
    · obtain rfl : k = xs.length := by omega
      have hF := HF.out
      rw [List.take_length] at hF
      have hsz := hT.size
      have hyl0 : ys.length ≤ 100000 := by omega
      cases d
      · have HE : Hid (ys ++ [(x, y, z)] = tgt) := H0.out ys hF
        obtain ⟨hz', d0, d1, d2⟩ := (hK.later hT).at3.cells
        clear hF
        go_wp2_with (first
          | (at_builtin; refine wpList_appS (base := W.heap.size) (xs := ys) rfl _ _ rfl rfl rfl rfl HY.out hyl0 hsz ?_; intro ao3 n3 cap3 w3 hW3 hB3)
          | go_in)
        go_ret
        exact ⟨_, rfl, HE.out ▸ hW3.weak hB.size, hB.trans ((hT.trans hB3).mono hB.size)⟩
      · have hE : ys = tgt := H1.out ys hF
        subst hE
        clear hF
        have HY2 : Hid (So wr w.heap.size (.slice ao' n' cap') ys) := HY.out.weak hB.size
        go_wp2
        go_ret
        exact ⟨_, rfl, HY2.out, then_below hB hT⟩

end Go.Proofs.Ytabhlmckncgdjaa

/-
  cal.At, cal.Next: what each call answers.
-/
namespace Go.Proofs.Ytabhlmckncgdjaa
open Go Go.RowKit Go.Shelf

attribute [local go_sem] Oper.semAt_some ext_const

def momB (a : Int) : Bool := decide (0 ≤ a) && decide (a < 1099511627776)
/-- What At answers. -/
def atE (xs : List Slt) (a : Int) : Int := if mayCB xs then (if momB a then (match atC xs a with | some _ => 0 | none => 6) else 2) else 8
def atV (xs : List Slt) (a : Int) : Int := if mayCB xs then (if momB a then (match atC xs a with | some o => o | none => 0) else 0) else 0
theorem momB_yes {a : Int} (h : 0 ≤ a ∧ a < 1099511627776) : momB a = true := by simp [momB, h]
theorem momB_no {a : Int} (h : ¬ (0 ≤ a ∧ a < 1099511627776)) : momB a = false := by
  unfold momB
  rw [Bool.and_eq_false_iff]
  by_cases h0 : 0 ≤ a
  · exact .inr (decide_eq_false fun h1 => h ⟨h0, h1⟩)
  · exact .inl (decide_eq_false h0)

set_option maxRecDepth 100000 in
set_option maxHeartbeats 8000000 in
theorem cat_calls {xs : List Slt} {v : Value} {a : Int} (w : World) (hS : Ss w v xs) : Calls Try.prog 67 #[v, I a] w fun e W' => e = .returned (.tuple #[I (atV xs a), I (atE xs a)]) ∧ Below w.heap.size w W' := by
  obtain ⟨ao, cap, rfl, hS⟩ := hS.form
  have HS : Hid (Ss w (.slice ao xs.length cap) xs) := hS
  clear hS
  by_cases hm : mayC xs
  · have HC := chk_yes (v := .slice ao xs.length cap) hm
    have em := mayCB_iff.2 hm
    by_cases ha : 0 ≤ a ∧ a < 1099511627776
    · have HF : Hid (∀ w, Calls Try.prog 64 #[I a, I 1] w fun e W' => e = .returned (.tuple #[S2 a (plusT a 1), I 0]) ∧ Below w.heap.size w W') := fun w => tfrom_yes w ⟨ha.1, ha.2, by omega⟩
      have HV : Hid (∀ k f t o, k < xs.length → xs.getD k (0, 0, 0) = (f, t, o) → f ≤ a → a < t → atV xs a = o ∧ atE xs a = 0) := fun k f t o hk hu h1 h2 => by
        have : atC xs a = some o := (atC_some hm.2.1 (mayC_fine hm)).2 ⟨(f, t, o), by rw [← hu]; simp [hk], ⟨h1, h2⟩, rfl⟩
        simp [atV, atE, em, momB_yes ha, this]
      have HN : Hid ((∀ j, j < xs.length → ¬ ((xs.getD j (0, 0, 0)).1 ≤ a ∧ a < (xs.getD j (0, 0, 0)).2.1)) → atV xs a = 0 ∧ atE xs a = 6) := fun h => by
        have : atC xs a = none := atC_none.2 fun s hs => by
          obtain ⟨i, hi, rfl⟩ := List.mem_iff_getElem.1 hs
          have := h i hi
          simpa [hi] using this
        simp [atV, atE, em, momB_yes ha, this]
      have hn : xs.length ≤ 4096 := hm.2.2
      clear hm em ha
      generalize atV xs a = rv at *
      generalize atE xs a = re at *
      generalize plusT a 1 = p1 at *
      go_enter Try.func67, Try.ntmps67
      go_wp2_with fail
      refine (HC.out _ HS.out).mono ?_
      rintro e w1 ⟨rfl, hT⟩
      go_wp2_with fail
      refine (HF.out _).mono ?_
      rintro e w2 ⟨rfl, hB2⟩
      obtain ⟨W, hW, hB3, hK⟩ := one_start w2 (C2 a p1) 36
      have HW : Hid (w2.alloc (.cells (C2 a p1) 36) = W) := hW
      have hT3 := then_below hT (then_below hB2 hB3)
      clear hW hB2 hB3 hK hT
      go_wp2
      rw [HW.out]
      clear HW
      have HS3 : Hid (Ss W (.slice ao xs.length cap) xs) := HS.out.later hT3
      go_loopw [26] (fun i wr => ∃ k : Nat, k ≤ xs.length ∧ i = .int .i64 k ∧ Hid (∀ j, j < k → ¬ ((xs.getD j (0, 0, 0)).1 ≤ a ∧ a < (xs.getD j (0, 0, 0)).2.1)) ∧ Below W.heap.size W wr) (fun i _ => xs.length - (intOf i).toNat)
      case atStart => exact ⟨0, by omega, rfl, fun j hj => by omega, Below.refl _ _⟩
      case round =>
        obtain ⟨k, hk, rfl, H0, hT⟩ := hrel
        by_cases hlt : (k : Int) < (xs.length : Int)
        · have hk' : k < xs.length := by omega
          obtain ⟨g, off, f, t, o, rfl, hu, hat⟩ := (HS3.out.later hT).at hk'
          obtain ⟨hg, c0, c1, c2⟩ := hat.cells
          have HU : Hid (xs.getD k (0, 0, 0) = (f, t, o)) := hu
          have hBN := (Below.refl _ wr).alloc (Nat.le_refl _) (.cells (C3 f t o) 52)
          clear hu hat
          have HJ : Hid (¬ (f ≤ a ∧ a < t) → ∀ j, j < k + 1 → ¬ ((xs.getD j (0, 0, 0)).1 ≤ a ∧ a < (xs.getD j (0, 0, 0)).2.1)) := fun hno j hj => by
            rcases Nat.lt_succ_iff_lt_or_eq.1 hj with h | rfl
            · exact H0.out j h
            · rw [HU.out]; exact hno
          by_cases h1 : f ≤ a
          · by_cases h2 : a < t
            · obtain ⟨e1, e2⟩ := HV.out k f t o hk' HU.out h1 h2
              subst e1 e2
              go_wp2
              go_ret2
              exact ⟨rfl, then_below hT3 (then_below hT hBN)⟩
            · have HJ2 : Hid (∀ j, j < k + 1 → ¬ ((xs.getD j (0, 0, 0)).1 ≤ a ∧ a < (xs.getD j (0, 0, 0)).2.1)) := HJ.out (fun h => h2 h.2)
              have h2 : decide (a < t) = false := decide_eq_false h2
              go_wp2
              go_roundw
              case rel => exact ⟨k + 1, by omega, by go_num, HJ2, then_below hT hBN⟩
              case measure => simp [intOf]; omega
          · have HJ2 : Hid (∀ j, j < k + 1 → ¬ ((xs.getD j (0, 0, 0)).1 ≤ a ∧ a < (xs.getD j (0, 0, 0)).2.1)) := HJ.out (fun h => h1 h.1)
            have h1 : decide (f ≤ a) = false := decide_eq_false h1
            go_wp2
            go_roundw
            case rel => exact ⟨k + 1, by omega, by go_num, HJ2, then_below hT hBN⟩
            case measure => simp [intOf]; omega
        · obtain ⟨e1, e2⟩ := HN.out fun j hj => H0.out j (by omega)
          subst e1 e2
          go_wp2
          go_ret2
          exact ⟨rfl, then_below hT3 hT⟩
    · have HF : Hid (∀ w, Calls Try.prog 64 #[I a, I 1] w fun e W' => e = .returned (.tuple #[S2 0 0, I 2]) ∧ Below w.heap.size w W') := fun w => tfrom_no w (fun h => ha ⟨h.1, h.2.1⟩)
      rw [show atV xs a = 0 by simp [atV, momB_no ha], show atE xs a = 2 by simp [atE, em, momB_no ha]]
      clear hm em ha
      go_enter Try.func67, Try.ntmps67
      go_wp2_with fail
      refine (HC.out _ HS.out).mono ?_
      rintro e w1 ⟨rfl, hT⟩
      go_wp2_with fail
      refine (HF.out _).mono ?_
      rintro e w2 ⟨rfl, hB2⟩
      have hB3 := (Below.refl _ w2).alloc (Nat.le_refl _) (.cells (C2 0 0) 36)
      go_wp2
      go_ret2
      exact ⟨rfl, then_below hT (then_below hB2 hB3)⟩
  · have em : mayCB xs = false := by cases e : mayCB xs; rfl; exact absurd (mayCB_iff.1 e) hm
    have HC := chk_no (v := .slice ao xs.length cap) hm
    rw [show atV xs a = 0 by simp [atV, em], show atE xs a = 8 by simp [atE, em]]
    clear hm em
    go_enter Try.func67, Try.ntmps67
    go_wp2_with fail
    refine (HC.out _ HS.out).mono ?_
    rintro e w1 ⟨rfl, hT⟩
    go_wp2
    go_ret2
    exact ⟨rfl, hT⟩

theorem nextC_is {c : List Slt} (hf : fineC c) {a long n : Int} (hl : 1 ≤ long) (hn : okF c a long n = true) (h : ∀ m, okF c a long m = true → n ≤ m) : nextC c a long = some n := by
  cases e : nextC c a long with
  | none =>
    have := nextC_none hf hl e n
    rw [this] at hn
    cases hn
  | some k =>
    obtain ⟨h1, h2⟩ := nextC_some hf hl e
    have := h k h1
    have := h2 n hn
    rw [show k = n by omega]
theorem nextC_not {c : List Slt} (hf : fineC c) {a long : Int} (hl : 1 ≤ long) (h : ∀ m, okF c a long m = false) : nextC c a long = none := by
  cases e : nextC c a long with
  | none => rfl
  | some k =>
    have := (nextC_some hf hl e).1
    rw [h k] at this
    cases this

/-- What holds behind k slots of Next's walk, p being the moment that is looked at. -/
structure Nx (c : List Slt) (a long : Int) (k : Nat) (p : Int) : Prop where
  lo : a ≤ p
  hi : p ≤ 1099511627776
  ends : ∀ j, j < k → (c.getD j (0, 0, 0)).2.1 ≤ p
  least : ∀ m, okF c a long m = true → p ≤ m
theorem okF_iff {c : List Slt} (hf : fineC c) {a long m : Int} (hl : 1 ≤ long) : okF c a long m = true ↔ a ≤ m ∧ long ≤ 1099511627776 - m ∧ ∀ s ∈ c, m + long ≤ s.1 ∨ s.2.1 ≤ m := by
  unfold okF
  rw [Bool.and_eq_true, Bool.and_eq_true, decide_eq_true_eq, decide_eq_true_eq, clearC_iff hf (by omega)]
theorem Nx.hit {c : List Slt} {a long p f t o : Int} {k : Nat} (N : Nx c a long k p) (hm : mayC c) (hl : 1 ≤ long) (hk : k < c.length) (hu : c.getD k (0, 0, 0) = (f, t, o)) (h : long ≤ f - p) : nextC c a long = some p := by
  have hf := mayC_fine hm
  have hmem : ∀ j, j < c.length → c.getD j (0, 0, 0) ∈ c := fun j hj => by simp [hj]
  have hs := hm.1 _ (hmem k hk)
  rw [hu] at hs
  have hs1 : 0 ≤ f ∧ f < t ∧ t ≤ 1099511627776 := hs.1
  refine nextC_is hf hl ((okF_iff hf hl).2 ⟨N.lo, by omega, fun s hs => ?_⟩) N.least
  obtain ⟨i, hi, rfl⟩ := List.mem_iff_getElem.1 hs
  by_cases hik : i < k
  · have := N.ends i hik
    simp [hi] at this
    exact .inr this
  · by_cases hik2 : i = k
    · subst hik2
      simp [hi] at hu
      rw [hu]
      exact .inl (by show p + long ≤ f; omega)
    · have := List.pairwise_iff_getElem.1 hm.2.1 k i hk hi (by omega)
      simp [hk] at hu
      rw [hu] at this
      simp only at this
      exact .inl (by omega)
theorem Nx.next {c : List Slt} {a long p f t o q : Int} {k : Nat} (N : Nx c a long k p) (hm : mayC c) (hl : 1 ≤ long) (hk : k < c.length) (hu : c.getD k (0, 0, 0) = (f, t, o)) (h : ¬ long ≤ f - p) (hq : p ≤ q ∧ t ≤ q ∧ (q = p ∨ q = t)) : Nx c a long (k + 1) q := by
  have hf := mayC_fine hm
  have hmem : ∀ j, j < c.length → c.getD j (0, 0, 0) ∈ c := fun j hj => by simp [hj]
  have hs := hm.1 _ (hmem k hk)
  rw [hu] at hs
  have hs1 : 0 ≤ f ∧ f < t ∧ t ≤ 1099511627776 := hs.1
  have := N.lo
  have := N.hi
  refine ⟨by omega, by omega, fun j hj => ?_, fun m hm2 => ?_⟩
  · rcases Nat.lt_succ_iff_lt_or_eq.1 hj with h | rfl
    · have := N.ends j h
      omega
    · rw [hu]; exact hq.2.1
  · have h1 := N.least m hm2
    have h2 := ((okF_iff hf hl).1 hm2).2.2 _ (hmem k hk)
    rw [hu] at h2
    simp only at h2
    omega
theorem Nx.none {c : List Slt} {a long p : Int} (N : Nx c a long c.length p) (hm : mayC c) (hl : 1 ≤ long) (h : 1099511627776 - p < long) : nextC c a long = none := by
  have hf := mayC_fine hm
  refine nextC_not hf hl fun m => ?_
  cases e : okF c a long m
  · rfl
  · have := N.least m e
    have := ((okF_iff hf hl).1 e).2.1
    omega
theorem Nx.end {c : List Slt} {a long p : Int} (N : Nx c a long c.length p) (hm : mayC c) (hl : 1 ≤ long) (h : ¬ 1099511627776 - p < long) : nextC c a long = some p := by
  have hf := mayC_fine hm
  refine nextC_is hf hl ((okF_iff hf hl).2 ⟨N.lo, by omega, fun s hs => ?_⟩) N.least
  obtain ⟨i, hi, rfl⟩ := List.mem_iff_getElem.1 hs
  have := N.ends i hi
  simp [hi] at this
  exact .inr this

/-- What Next answers. -/
def askN (a long : Int) : Bool := momB a && decide (1 ≤ long)
def nextE (xs : List Slt) (a long : Int) : Int := if mayCB xs then (if askN a long then (match nextC xs a long with | some _ => 0 | none => 6) else 2) else 8
def nextV (xs : List Slt) (a long : Int) : Int := if mayCB xs then (if askN a long then (match nextC xs a long with | some n => n | none => 0) else 0) else 0
theorem askN_yes {a long : Int} (h : 0 ≤ a ∧ a < 1099511627776 ∧ 1 ≤ long) : askN a long = true := by simp [askN, momB_yes ⟨h.1, h.2.1⟩, h.2.2]
theorem askN_no {a long : Int} (h : ¬ (0 ≤ a ∧ a < 1099511627776 ∧ 1 ≤ long)) : askN a long = false := by
  unfold askN
  by_cases h1 : 0 ≤ a ∧ a < 1099511627776
  · rw [decide_eq_false (fun h2 => h ⟨h1.1, h1.2, h2⟩)]
    simp
  · rw [momB_no h1]
    rfl

end Go.Proofs.Ytabhlmckncgdjaa

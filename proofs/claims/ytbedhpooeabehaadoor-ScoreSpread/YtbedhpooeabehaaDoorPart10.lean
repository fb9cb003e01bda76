/-
  Lists of whole numbers: a list behind another one, and two numbers behind a list.
-/
import Derived.Test.YtbedhpooeabehaaDoorPart6
import Derived.Laws.AppendOwn
import Derived.Laws.AppendOwnNone
import Derived.Test.YtbedhpooeabehaaDoorPart9
import Derived.Test.YtbedhpooeabehaaDoorPart2
import Derived.Shelf.Sort.Plain
import Derived.Shelf.Lay
import Derived.Sort.OwnSortedInts
import Derived.Ground.NamesProg
namespace Go.Proofs.YtbedhpooeabehaaDoor
open Go Go.RowKit Go.Shelf

/-- 'list = append(list, x, y)', the list a call's own. -/
theorem wpList_app2 {ops : Array Oper} {rest : List Oper} {o : Oper} {a : Act} {Q : Exit → Act → World → Prop} {W : World} {base : Nat} {v : Value} {xs : List Int} {y z : Int} (hgd : o.guard = none) (s x : Operand)
    (ho : o.op = .call { callee := .builtin .append, args := #[s, x], argTypes := #[49, 49] }) (hs : a.eval s = v) (hx : a.eval x = .slice (some ⟨W.heap.size, 0, none⟩) 2 2)
    (hown : Lst W base v xs) (hl : xs.length ≤ 100000) (hb : base ≤ W.heap.size)
    (h : ∀ v' w', Lst w' base v' (xs ++ [y, z]) → Below base W w' → wpList Tryd.prog ops Q rest (a.put o.dst v') w') : wpList Tryd.prog ops Q (o :: rest) a (W.alloc (.cells #[.int .i64 y, .int .i64 z] 3)) := by
  obtain ⟨i0, hi, hz0, hz1, hz2⟩ := info_parts info_int
  refine wpList_append_own (w := W.alloc (.cells #[.int .i64 y, .int .i64 z] 3)) hgd s x 49 ho base 3 i0 (.int .i64 0) 1 8 Tryd.underlying49 hi hz0 hz1 hz2 rfl (by decide) v xs.length _ hs (hown.alloc _) ⟨W.heap.size, 0, none⟩ 2 2 [.int .i64 y, .int .i64 z] hx rfl ?_ ?_ ?_ ?_ ?_ ?_
  · intro j u hj
    match j, hj with
    | 0, hj => simp at hj; subst hj; simp [Addr.add]
    | 1, hj => simp at hj; subst hj; simp [Addr.add]
  · intro u hu; simp at hu; rcases hu with rfl | rfl <;> rfl
  · unfold maxLen; omega
  · omega
  · simp; omega
  · intro v' w1 hown' hgrow _
    refine h v' w1 ?_ ?_
    · unfold Lst
      rw [List.map_append, List.length_append]
      exact hown'
    · exact ((Below.refl base W).alloc hb _).grown hgrow (by simp; omega) (fun k hk => (World.ownsRow.lt hown k hk).1)

/-- 'list = append(list, more...)', both lists a call's own. -/
theorem wpList_cat {ops : Array Oper} {rest : List Oper} {o : Oper} {a : Act} {Q : Exit → Act → World → Prop} {W : World} {base b2 : Nat} {v u : Value} {xs ys : List Int} (hgd : o.guard = none) (s x : Operand)
    (ho : o.op = .call { callee := .builtin .append, args := #[s, x], argTypes := #[49, 49] }) (hs : a.eval s = v) (hx : a.eval x = u)
    (hown : Lst W base v xs) (hu : Lst W b2 u ys) (hl : xs.length ≤ 100000) (hl2 : ys.length ≤ 100000) (hb : base ≤ W.heap.size)
    (h : ∀ v' w', Lst w' base v' (xs ++ ys) → Below base W w' → wpList Tryd.prog ops Q rest (a.put o.dst v') w') : wpList Tryd.prog ops Q (o :: rest) a W := by
  obtain ⟨i0, hi, hz0, hz1, hz2⟩ := info_parts info_int
  have hv := hu.view
  rcases hu.2 with ⟨rfl, hn⟩ | ⟨g, cap, cur, rfl, hg, hh, hc, hc2, hs2, ht⟩
  · have : ys = [] := List.length_eq_zero_iff.1 hn
    subst this
    rw [List.append_nil] at h
    exact wpList_append_own_none hgd s x 49 ho base 3 i0 1 Tryd.underlying49 hi v xs.length _ hs hown hx (h _ _ hown (Below.refl _ _))
  · refine wpList_append_own (w := W) hgd s x 49 ho base 3 i0 (.int .i64 0) 1 8 Tryd.underlying49 hi hz0 hz1 hz2 rfl (by decide) v xs.length _ hs hown ⟨g, 0, none⟩ ys.length cap (ys.map (Value.int .i64)) hx (by simp) ?_ ?_ ?_ ?_ ?_ ?_
    · intro j y hj
      have hjl : j < ys.length := by
        have := (List.getElem?_eq_some_iff.1 hj).1
        simpa using this
      obtain ⟨ao, c, e, hw⟩ := hv
      simp only [Value.slice.injEq] at e
      obtain ⟨rfl, -, -⟩ := e
      obtain ⟨g', cur', e, hB, hc'⟩ := hw j hjl
      simp only [Option.some.injEq, Addr.mk.injEq] at e
      obtain ⟨rfl, -, -⟩ := e
      have : (⟨g, 0, none⟩ : Addr).add j = ⟨g, j, none⟩ := by
        unfold Addr.add
        split
        · rename_i h0; subst h0; rfl
        · simp
      rw [this, hB.cell j, hc', ← hj]
      simp [hjl]
    · intro y hy
      obtain ⟨z, _, rfl⟩ := List.mem_map.1 hy
      rfl
    · unfold maxLen; omega
    · omega
    · omega
    · intro v' w1 hown' hgrow _
      refine h v' w1 ?_ ?_
      · unfold Lst
        rw [List.map_append, List.length_append]
        exact hown'
      · exact (Below.refl base W).grown hgrow hb (fun k hk => (World.ownsRow.lt hown k hk).1)

end Go.Proofs.YtbedhpooeabehaaDoor

/-
  A list behind another one, while a third one stays: where the longer list lies.
-/
namespace Go.Proofs.YtbedhpooeabehaaDoor
open Go Go.RowKit Go.Shelf

/-- What is appended to lies where it lay, or in new memory. -/
theorem cat_row {W : World} {base : Nat} {v : Value} {xs : List Int} {news : List Value} {ad : Addr} {c : Nat} (ty : TypeId) {i : TypeInfo} (hi : Tryd.prog.info? 3 = some i) (hz0 : i.zero = some (.int .i64 0)) (hz1 : i.size = 1) (hz2 : i.bytes = 8)
    (hown : Lst W base v xs) (hnews : ∀ j u, news[j]? = some u → W.cell? (ad.add j) = some u) (h1 : ∀ u ∈ news, u.oneCell' = true) (hlen : xs.length + news.length ≤ 1000000) {v' : Value} {w' : World}
    (hr : (Builtin.append_ #[49, 49] ty #[v, .slice (some ad) news.length c]).run Tryd.prog W = .ok v' w') : ∀ g, v'.ownBlock = some g → v.ownBlock = some g ∨ W.heap.size ≤ g := by
  intro g hg
  have ht := Tryd.underlying49
  have hl : news.length = news.length * i.size := by rw [hz1, Nat.mul_one]
  obtain ⟨hx, hown⟩ := hown
  rcases hown with ⟨rfl, hn⟩ | ⟨g0, cap, cur, rfl, hbg, hg0, hnc, hcm, hcs, htake⟩
  · by_cases hm : news.length = 0
    · have hn : news = [] := List.eq_nil_of_length_eq_zero hm
      subst hn
      have hr' : (Builtin.append_ #[49, 49] ty #[.slice none 0 0, .slice (some ad) 0 c]).run Tryd.prog W = .ok (.slice none 0 0) W := by
        simp [Builtin.append_, run_underlying ht, sizeOf, typeInfo, hi, Builtin.lenOf, Builtin.firstCells, loadCells, loadCellsFrom]
      rw [List.length_nil, hr'] at hr
      simp only [Result.ok.injEq] at hr
      rw [← hr.1] at hg
      simp [Value.ownBlock] at hg
    · have hr' := run_append_nil (P := Tryd.prog) W 49 ty 3 i _ ht hi hz0 ad news.length c news hl hnews (by omega) (by omega) (by rw [hz2]; omega)
      rw [hr'] at hr
      simp only [Result.ok.injEq] at hr
      rw [← hr.1] at hg
      simp [Value.ownBlock] at hg
      exact .inr (by omega)
  · by_cases hroom : xs.length + news.length ≤ cap
    · have hr' := run_append_room (P := Tryd.prog) W 49 ty 3 i ht hi g0 xs.length cap cur hg0 ad news.length c news hl hnews h1 hroom (by rw [hz1, hcs]; omega)
      rw [hr'] at hr
      simp only [Result.ok.injEq] at hr
      rw [← hr.1] at hg
      exact .inl hg
    · have holds : ∀ j u, (xs.map (Value.int .i64))[j]? = some u → W.cell? ((⟨g0, 0, none⟩ : Addr).add j) = some u :=
        World.ownsRow.cells (base := base) (v := .slice (some ⟨g0, 0, none⟩) xs.length cap) ⟨hx, .inr ⟨g0, cap, cur, rfl, hbg, hg0, hnc, hcm, hcs, htake⟩⟩ (g := g0) rfl
      have hr' := run_append_grow (P := Tryd.prog) W 49 ty 3 i _ ht hi hz0 ⟨g0, 0, none⟩ xs.length cap (xs.map (Value.int .i64)) (by rw [hz1]; exact hx) holds ad news.length c news hl hnews (by omega) (by omega) (growslice_fits (by omega) (by rw [hz2]; omega))
      rw [hr'] at hr
      simp only [Result.ok.injEq] at hr
      rw [← hr.1] at hg
      simp [Value.ownBlock] at hg
      exact .inr (by omega)

/-- A list that does not lie where another one does. -/
def Beside (u v : Value) : Prop := ∀ g, u.ownBlock = some g → v.ownBlock ≠ some g
theorem Beside.of_old {W : World} {b n : Nat} {u v : Value} {xs ys : List Int} (hu : Lst W n u xs) {w : World} (hv : Lst w b v ys) (hn : w.heap.size ≤ n) : Beside u v := fun g hg hv' => by
  have h1 := (World.ownsRow.lt hu g hg).1
  have h2 := (World.ownsRow.lt hv g hv').2
  omega

/-- 'list = append(list, more...)', both lists a call's own; a third one stays as it is. -/
theorem wpList_catK {ops : Array Oper} {rest : List Oper} {o : Oper} {a : Act} {Q : Exit → Act → World → Prop} {W : World} {base b2 b3 : Nat} {v u k : Value} {xs ys zs : List Int} (hgd : o.guard = none) (s x : Operand)
    (ho : o.op = .call { callee := .builtin .append, args := #[s, x], argTypes := #[49, 49] }) (hs : a.eval s = v) (hx : a.eval x = u)
    (hown : Lst W base v xs) (hu : Lst W b2 u ys) (hk : Lst W b3 k zs) (hkv : Beside k v) (hl : xs.length ≤ 100000) (hl2 : ys.length ≤ 100000) (hb : base ≤ W.heap.size)
    (h : ∀ v' w', Lst w' base v' (xs ++ ys) → Lst w' b3 k zs → Beside k v' → Below base W w' → wpList Tryd.prog ops Q rest (a.put o.dst v') w') : wpList Tryd.prog ops Q (o :: rest) a W := by
  obtain ⟨i0, hi, hz0, hz1, hz2⟩ := info_parts info_int
  have hv := hu.view
  rcases hu.2 with ⟨rfl, hn⟩ | ⟨g, cap, cur, rfl, hg, hh, hc, hc2, hs2, ht⟩
  · have : ys = [] := List.length_eq_zero_iff.1 hn
    subst this
    rw [List.append_nil] at h
    exact wpList_append_own_none hgd s x 49 ho base 3 i0 1 Tryd.underlying49 hi v xs.length _ hs hown hx (h _ _ hown hk hkv (Below.refl _ _))
  · have hnews : ∀ j y, (ys.map (Value.int .i64))[j]? = some y → W.cell? ((⟨g, 0, none⟩ : Addr).add j) = some y := by
      intro j y hj
      have hjl : j < ys.length := by
        have := (List.getElem?_eq_some_iff.1 hj).1
        simpa using this
      obtain ⟨ao, c, e, hw⟩ := hv
      simp only [Value.slice.injEq] at e
      obtain ⟨rfl, -, -⟩ := e
      obtain ⟨g', cur', e, hB, hc'⟩ := hw j hjl
      simp only [Option.some.injEq, Addr.mk.injEq] at e
      obtain ⟨rfl, -, -⟩ := e
      have : (⟨g, 0, none⟩ : Addr).add j = ⟨g, j, none⟩ := by
        unfold Addr.add
        split
        · rename_i h0; subst h0; rfl
        · simp
      rw [this, hB.cell j, hc', ← hj]
      simp [hjl]
    have hone : ∀ y ∈ ys.map (Value.int .i64), y.oneCell' = true := by
      intro y hy
      obtain ⟨z, _, rfl⟩ := List.mem_map.1 hy
      rfl
    have hlm : (ys.map (Value.int .i64)).length = ys.length := by simp
    obtain ⟨v', w', hr, h2, h3, h4⟩ := run_append_own (P := Tryd.prog) W base 49 o.type 3 i0 (.int .i64 0) 1 8 Tryd.underlying49 hi hz0 hz1 hz2 rfl (by decide) v xs.length (xs.map (Value.int .i64)) hown ⟨g, 0, none⟩ ys.length cap (ys.map (Value.int .i64)) (by simp) hnews hone (by unfold maxLen; omega) (by omega) hb
    have hrow := cat_row (W := W) (v := v) (news := ys.map (Value.int .i64)) (c := cap) (ad := ⟨g, 0, none⟩) o.type hi hz0 hz1 hz2 hown hnews hone (by rw [hlm]; omega) (v' := v') (w' := w') (by rw [hlm]; exact hr)
    refine wpList_plain hgd fun K hK => ?_
    unfold Oper.wp execOp
    simp only [ho, resolve, invoke, builtin, Sem.run_bind, Sem.run_pure, Result.andThen_ok, List.map_toArray, List.map_cons, List.map_nil, hs, hx, hr]
    refine hK _ _ (h v' w' ?_ ?_ ?_ ?_)
    · unfold Lst
      rw [List.map_append, List.length_append]
      exact h2
    · refine World.ownsRow.kept hk h3 ?_
      cases e : k.ownBlock
      · exact .inl rfl
      · exact .inr fun e' => hkv _ e e'.symm
    · intro g' hg' hv'
      rcases hrow g' hv' with e | e
      · exact hkv _ hg' e
      · have := (World.ownsRow.lt hk g' hg').2
        omega
    · exact (Below.refl base W).grown h3 hb (fun k hk => (World.ownsRow.lt hown k hk).1)

/-- A cell below is written. -/
theorem Lst.store {W : World} {base : Nat} {v : Value} {xs : List Int} (h : Lst W base v xs) {B i : Nat} (hB : B < base) (u : Value) : Lst (W.setCell ⟨B, i, none⟩ u) base v xs := ownsRow_setCell_below h (a := ⟨B, i, none⟩) hB u

end Go.Proofs.YtbedhpooeabehaaDoor

/-
  wire.checkLine, wire.wired, wire.Many, wire.Link, wire.Ends: what each call answers, for every input; nothing that lay before is turned.
-/
namespace Go.Proofs.YtbedhpooeabehaaDoor
open Go.RowKit Go.Shelf

attribute [local go_sem] Oper.semAt_some ext_const

/-- An axis that may be, and a midplane. -/
def lineOk (d0 d1 d2 axis m : Int) : Prop := (0 ≤ m ∧ m < d0 * d1 * d2) ∧ (0 ≤ axis ∧ axis < 3)
/-- What is refused, and with which error. -/
def Refused (d0 d1 d2 axis m e : Int) : Prop := (¬ mayD d0 d1 d2 ∧ e = 8) ∨ (mayD d0 d1 d2 ∧ ¬ lineOk d0 d1 d2 axis m ∧ e = 2)

theorem Refused.ne {d0 d1 d2 axis m e : Int} (h : Refused d0 d1 d2 axis m e) : (e != 0) = true := by
  rcases h with ⟨_, rfl⟩ | ⟨_, _, rfl⟩ <;> decide
theorem refused_or (d0 d1 d2 axis m : Int) : (∃ e, Refused d0 d1 d2 axis m e) ∨ (mayD d0 d1 d2 ∧ (0 ≤ m ∧ m < d0 * d1 * d2) ∧ ∃ k : Fin 3, axis = axI k) := by
  by_cases h : mayD d0 d1 d2
  · by_cases h' : lineOk d0 d1 d2 axis m
    · refine .inr ⟨h, h'.1, ?_⟩
      have := h'.2
      have : axis = 0 ∨ axis = 1 ∨ axis = 2 := by omega
      rcases this with rfl | rfl | rfl
      · exact ⟨0, rfl⟩
      · exact ⟨1, rfl⟩
      · exact ⟨2, rfl⟩
    · exact .inl ⟨2, .inr ⟨h, h', rfl⟩⟩
  · exact .inl ⟨8, .inl ⟨h, rfl⟩⟩

theorem step_ref {d0 d1 d2 axis m e : Int} (by_ : Int) (w : World) (h : Refused d0 d1 d2 axis m e) :
    Calls Tryd.prog 47 #[A3 d0 d1 d2, I m, I axis, I by_] w fun x W' => x = .returned (.tuple #[I 0, I e]) ∧ Below w.heap.size w W' := by
  rcases h with ⟨h, rfl⟩ | ⟨h, h', rfl⟩
  · exact step_err m axis by_ 8 w (by decide) (fun w => of_bad m w h)
  · by_cases hn : 0 ≤ m ∧ m < d0 * d1 * d2
    · exact step_axis w h hn (fun ha => h' ⟨hn, ha⟩)
    · exact step_err m axis by_ 2 w (by decide) (fun w => of_no w h hn)

set_option maxHeartbeats 400000 in
theorem checkl_of {d0 d1 d2 axis m : Int} (r e : Int) (w : World) (hc : ∀ w, Calls Tryd.prog 47 #[A3 d0 d1 d2, I m, I axis, I 0] w fun x W' => x = .returned (.tuple #[I r, I e]) ∧ Below w.heap.size w W') :
    Calls Tryd.prog 66 #[A3 d0 d1 d2, I axis, I m] w fun x W' => x = .returned (I e) ∧ Below w.heap.size w W' := by
  have HH : Hid (∀ w, Calls Tryd.prog 47 #[A3 d0 d1 d2, I m, I axis, I 0] w fun x W' => x = .returned (.tuple #[I r, I e]) ∧ Below w.heap.size w W') := hc
  clear hc
  go_enter Tryd.func66, Tryd.ntmps66
  go_wp2_with fail
  refine (HH.out _).mono ?_
  rintro x w1 ⟨rfl, hB⟩
  go_wp2
  go_ret
  exact ⟨rfl, then_below ((Below.refl _ w).alloc (Nat.le_refl _) _) hB⟩

theorem checkl_ref {d0 d1 d2 axis m e : Int} (w : World) (h : Refused d0 d1 d2 axis m e) :
    Calls Tryd.prog 66 #[A3 d0 d1 d2, I axis, I m] w fun x W' => x = .returned (I e) ∧ Below w.heap.size w W' :=
  checkl_of 0 e w fun w => step_ref 0 w h
theorem checkl_yes {d0 d1 d2 axis m : Int} (w : World) (hm : mayD d0 d1 d2) (hn : 0 ≤ m ∧ m < d0 * d1 * d2) {k : Fin 3} (hk : axis = axI k) :
    Calls Tryd.prog 66 #[A3 d0 d1 d2, I axis, I m] w fun x W' => x = .returned (I 0) ∧ Below w.heap.size w W' := by
  subst hk
  exact checkl_of _ 0 w fun w => step_yes w hm hn k

set_option maxHeartbeats 400000 in
theorem wired_calls {d0 d1 d2 axis : Int} (w : World) {k : Fin 3} (hk : axis = axI k) {b : Bool} (hb : b = decide (1 < dimAt d0 d1 d2 k)) :
    Calls Tryd.prog 77 #[A3 d0 d1 d2, I axis] w fun x W' => x = .returned (.bool b) ∧ Below w.heap.size w W' := by
  have HB : Hid (b = decide (1 < dimAt d0 d1 d2 k)) := hb
  clear hb
  subst hk
  rcases fin3 k with rfl | rfl | rfl
  all_goals
    simp only [axI, dimAt] at HB ⊢
    go_enter Tryd.func77, Tryd.ntmps77
    go_wp2
    go_ret
    exact ⟨by rw [HB.out]; rfl, (Below.refl _ w).alloc (Nat.le_refl _) _⟩

set_option maxHeartbeats 400000 in
theorem wmany_no {d0 d1 d2 : Int} (w : World) (hm : ¬ mayD d0 d1 d2) :
    Calls Tryd.prog 41 #[A3 d0 d1 d2] w fun e W' => e = .returned (.tuple #[I 0, I 8]) ∧ Below w.heap.size w W' := by
  go_enter Tryd.func41, Tryd.ntmps41
  go_wp2_with fail
  refine (many_no _ hm).mono ?_
  rintro e w1 ⟨rfl, hB⟩
  go_wp2
  go_ret2
  exact ⟨rfl, then_below ((Below.refl _ w).alloc (Nat.le_refl _) _) hB⟩
set_option maxHeartbeats 400000 in
theorem wmany_yes {d0 d1 d2 : Int} (w : World) (hm : mayD d0 d1 d2) :
    Calls Tryd.prog 41 #[A3 d0 d1 d2] w fun e W' => e = .returned (.tuple #[I (3 * (d0 * d1 * d2)), I 0]) ∧ Below w.heap.size w W' := by
  have hN := N_bd hm
  have HM : Hid (∀ w, Calls Tryd.prog 31 #[A3 d0 d1 d2] w fun e W' => e = .returned (.tuple #[I (d0 * d1 * d2), I 0]) ∧ Below w.heap.size w W') := fun w => many_yes w hm
  generalize d0 * d1 * d2 = N at *
  go_enter Tryd.func41, Tryd.ntmps41
  go_wp2_with fail
  refine (HM.out _).mono ?_
  rintro e w1 ⟨rfl, hB⟩
  go_wp2
  go_ret2
  exact ⟨rfl, then_below ((Below.refl _ w).alloc (Nat.le_refl _) _) hB⟩

set_option maxHeartbeats 400000 in
theorem link_ref {d0 d1 d2 axis m e : Int} (w : World) (h : Refused d0 d1 d2 axis m e) :
    Calls Tryd.prog 74 #[A3 d0 d1 d2, I axis, I m] w fun x W' => x = .returned (.tuple #[I 0, I e]) ∧ Below w.heap.size w W' := by
  have he := h.ne
  have H : Hid (Refused d0 d1 d2 axis m e) := h
  clear h
  go_enter Tryd.func74, Tryd.ntmps74
  go_wp2_with fail
  refine (checkl_ref _ H.out).mono ?_
  rintro x w1 ⟨rfl, hB⟩
  go_wp2
  go_ret2
  exact ⟨rfl, then_below ((Below.refl _ w).alloc (Nat.le_refl _) _) hB⟩

set_option maxHeartbeats 400000 in
theorem link_none {d0 d1 d2 axis m : Int} (w : World) (hm : mayD d0 d1 d2) (hn : 0 ≤ m ∧ m < d0 * d1 * d2) {k : Fin 3} (hk : axis = axI k) (h1 : ¬ 1 < dimAt d0 d1 d2 k) :
    Calls Tryd.prog 74 #[A3 d0 d1 d2, I axis, I m] w fun x W' => x = .returned (.tuple #[I 0, I 6]) ∧ Below w.heap.size w W' := by
  have HN : Hid (0 ≤ m ∧ m < d0 * d1 * d2) := hn
  have HK : Hid (axis = axI k) := hk
  have HW : Hid (false = decide (1 < dimAt d0 d1 d2 k)) := (decide_eq_false h1).symm
  clear hn hk h1
  go_enter Tryd.func74, Tryd.ntmps74
  go_wp2_with fail
  refine (checkl_yes _ hm HN.out HK.out).mono ?_
  rintro x w1 ⟨rfl, hB⟩
  have g0 := (Blk.new w 26 #[I d0, I d1, I d2]).later hB
  have c0 := g0.cell 0
  have c1 := g0.cell 1
  have c2 := g0.cell 2
  simp at c0 c1 c2
  go_wp2_with fail
  refine (wired_calls _ HK.out HW.out).mono ?_
  rintro x w2 ⟨rfl, hB2⟩
  go_wp2
  go_ret2
  exact ⟨rfl, then_below (then_below ((Below.refl _ w).alloc (Nat.le_refl _) _) hB) hB2⟩

theorem cab_wrap {d0 d1 d2 m : Int} (hm : mayD d0 d1 d2) (hn : 0 ≤ m ∧ m < d0 * d1 * d2) (k : Fin 3) : wrap64 (wrap64 (axI k * (d0 * d1 * d2)) + m) = cabW d0 d1 d2 k m := by
  have hN := N_bd hm
  unfold cabW
  generalize d0 * d1 * d2 = N at *
  match k with
  | 0 => simp only [axI]; unfold wrap64; omega
  | 1 => simp only [axI]; unfold wrap64; omega
  | 2 => simp only [axI]; unfold wrap64; omega

set_option maxHeartbeats 400000 in
theorem link_yes {d0 d1 d2 axis m : Int} (w : World) (hm : mayD d0 d1 d2) (hn : 0 ≤ m ∧ m < d0 * d1 * d2) {k : Fin 3} (hk : axis = axI k) (h1 : 1 < dimAt d0 d1 d2 k) :
    Calls Tryd.prog 74 #[A3 d0 d1 d2, I axis, I m] w fun x W' => x = .returned (.tuple #[I (cabW d0 d1 d2 k m), I 0]) ∧ Below w.heap.size w W' := by
  have hcw := cab_wrap hm hn k
  rw [← hk] at hcw
  have HN : Hid (0 ≤ m ∧ m < d0 * d1 * d2) := hn
  have HM : Hid (∀ w, Calls Tryd.prog 31 #[A3 d0 d1 d2] w fun e W' => e = .returned (.tuple #[I (d0 * d1 * d2), I 0]) ∧ Below w.heap.size w W') := fun w => many_yes w hm
  have HL : Hid (∀ w, Calls Tryd.prog 66 #[A3 d0 d1 d2, I axis, I m] w fun x W' => x = .returned (I 0) ∧ Below w.heap.size w W') := fun w => checkl_yes w hm hn hk
  have HW : Hid (∀ w, Calls Tryd.prog 77 #[A3 d0 d1 d2, I axis] w fun x W' => x = .returned (.bool true) ∧ Below w.heap.size w W') := fun w => wired_calls w hk (decide_eq_true h1).symm
  generalize cabW d0 d1 d2 k m = c at *
  generalize d0 * d1 * d2 = N at *
  have HC : Hid (wrap64 (wrap64 (axis * N) + m) = c) := hcw
  clear hcw hn hk h1 HN
  go_enter Tryd.func74, Tryd.ntmps74
  go_wp2_with fail
  refine (HL.out _).mono ?_
  rintro x w1 ⟨rfl, hB⟩
  have g0 := (Blk.new w 26 #[I d0, I d1, I d2]).later hB
  have c0 := g0.cell 0
  have c1 := g0.cell 1
  have c2 := g0.cell 2
  simp at c0 c1 c2
  go_wp2_with fail
  refine (HW.out _).mono ?_
  rintro x w2 ⟨rfl, hB2⟩
  have g1 := g0.later hB2
  have k0 := g1.cell 0
  have k1 := g1.cell 1
  have k2 := g1.cell 2
  simp at k0 k1 k2
  go_wp2_with fail
  refine (HM.out _).mono ?_
  rintro x w3 ⟨rfl, hB3⟩
  go_wp2
  go_ret2
  exact ⟨by rw [HC.out]; rfl, then_below (then_below (then_below ((Below.refl _ w).alloc (Nat.le_refl _) _) hB) hB2) hB3⟩

end Go.Proofs.YtbedhpooeabehaaDoor

/-
  wire.Ends: what it answers, for every input; nothing that lay before is turned.
-/
namespace Go.Proofs.YtbedhpooeabehaaDoor
open Go.RowKit Go.Shelf

attribute [local go_sem] Oper.semAt_some ext_const

theorem results_tmp4 {fn : Func} {t u v x : Tmp} (h : fn.results = #[.tmp t, .tmp u, .tmp v, .tmp x]) (tmps : Array Value) (P : Program) (w : World) :
    (results fn tmps).run P w = .ok (.tuple #[tmps.getD t undef, tmps.getD u undef, tmps.getD v undef, tmps.getD x undef]) w := by
  simp [results, h]

/-- Each number of a cable is an axis and a midplane. -/
theorem cab_of {d0 d1 d2 link : Int} (h : mayD d0 d1 d2) (hl : 0 ≤ link ∧ link < 3 * (d0 * d1 * d2)) : ∃ (k : Fin 3) (m : Int), (0 ≤ m ∧ m < d0 * d1 * d2) ∧ link = cabW d0 d1 d2 k m := by
  have hN := N_bd h
  unfold cabW
  generalize d0 * d1 * d2 = N at *
  by_cases h1 : link < N
  · exact ⟨0, link, by omega, by simp only [axI]; omega⟩
  · by_cases h2 : link < 2 * N
    · exact ⟨1, link - N, by omega, by simp only [axI]; omega⟩
    · exact ⟨2, link - 2 * N, by omega, by simp only [axI]; omega⟩

end Go.Proofs.YtbedhpooeabehaaDoor

/-
  wire.line hands out the cables of a line, one behind the other, and stops where a round says so.
-/
namespace Go.Proofs.YtbedhpooeabehaaDoor
open Go.RowKit Go.Shelf

attribute [local go_sem] Oper.semAt_some ext_const

/-- So many cables of a line, from m on. -/
def seqW (d0 d1 d2 m : Int) (k : Fin 3) (n : Nat) : List Int := (List.range n).map fun i : Nat => cabW d0 d1 d2 k (onD d0 d1 d2 m k (i : Int))
theorem seqW_len (d0 d1 d2 m : Int) (k : Fin 3) (n : Nat) : (seqW d0 d1 d2 m k n).length = n := by simp [seqW]
theorem seqW_succ (d0 d1 d2 m : Int) (k : Fin 3) (n : Nat) : seqW d0 d1 d2 m k (n + 1) = seqW d0 d1 d2 m k n ++ [cabW d0 d1 d2 k (onD d0 d1 d2 m k (n : Int))] := by
  simp [seqW, List.range_succ]
theorem seqW_pre (d0 d1 d2 m : Int) (k : Fin 3) {n n' : Nat} (h : n ≤ n') : seqW d0 d1 d2 m k n <+: seqW d0 d1 d2 m k n' := by
  obtain ⟨j, rfl⟩ := Nat.le.dest h
  induction j with
  | zero => exact List.prefix_refl _
  | succ j ih => exact (ih (by omega)).trans (by rw [← Nat.add_assoc, seqW_succ]; exact List.prefix_append _ _)
/-- All that a line hands out. -/
def outW (d0 d1 d2 m : Int) (k : Fin 3) : List Int := if 1 < dimAt d0 d1 d2 k then seqW d0 d1 d2 m k (dimAt d0 d1 d2 k).toNat else []

theorem abide_below {J : List Int → World → Prop} {B : Nat} (hJ : AbidesFrom B J) {pre : List Int} {W W' : World} (h : J pre W) (hb : Below W.heap.size W W') : J pre W' :=
  hJ pre W W' none h ⟨hb.os, hb.tape, hb.output, hb.size, fun k hk _ => hb.block k hk⟩ (fun r e => by cases e)

set_option maxHeartbeats 400000 in
theorem line_calls (d0 d1 d2 axis m : Int) (w : World) :
    Calls Tryd.prog 68 #[A3 d0 d1 d2, I axis, I m] w fun e w' => e = .returned (.func (.func 73) #[] #[.pointer (some ⟨w.heap.size, 0, none⟩), .pointer (some ⟨w.heap.size + 1, 0, none⟩), .pointer (some ⟨w.heap.size + 1 + 1, 0, none⟩)]) ∧
      w' = ((w.alloc (.cells #[I d0, I d1, I d2] 26)).alloc (.cells #[I axis] 3)).alloc (.cells #[I m] 3) := by
  go_enter Tryd.func68, Tryd.ntmps68
  go_wp2
  go_ret
  exact ⟨rfl, rfl⟩

set_option maxRecDepth 100000 in
set_option maxHeartbeats 2000000 in
/-- The closure's rounds, along an axis that has cables. -/
theorem line1_yes {d0 d1 d2 m : Int} (hm : mayD d0 d1 d2) (hn : 0 ≤ m ∧ m < d0 * d1 * d2) (k : Fin 3) (h1 : 1 < dimAt d0 d1 d2 k) (n : Nat) (h1n : 1 ≤ n) (l Bd Ba Bm n₀ : Nat) (J Jx : List Int → World → Prop) (W : World)
    (hd : Bd < n₀) (ha : Ba < n₀) (hmm : Bm < n₀) (hn₀ : n₀ ≤ W.heap.size) (bd : Blk W Bd 26 #[I d0, I d1, I d2]) (ba : Blk W Ba 3 #[I (axI k)]) (bm : Blk W Bm 3 #[I m]) (hJ : AbidesFrom W.heap.size J)
    (hY : ∀ pre x W1, J pre W1 → pre.length < (outW d0 d1 d2 m k).length → YieldAt Fence.wide (n - 1) Tryd.prog l #[I x] W1 fun e W' =>
      (e = .returned (.bool true) ∧ J (pre ++ [x]) W' ∧ Below n₀ W1 W') ∨ (e = .returned (.bool false) ∧ Jx (pre ++ [x]) W')) (h0 : J [] W) :
    CallsIn Fence.wide n Tryd.prog 73 #[.func (.yield l) #[] #[], .pointer (some ⟨Bd, 0, none⟩), .pointer (some ⟨Ba, 0, none⟩), .pointer (some ⟨Bm, 0, none⟩)] W fun e W' =>
      (∃ v, e = .returned v) ∧ ((∃ xs, xs = outW d0 d1 d2 m k ∧ J xs W') ∨ (∃ pre, pre <+: outW d0 d1 d2 m k ∧ Jx pre W')) := by
  have eo : outW d0 d1 d2 m k = seqW d0 d1 d2 m k (dimAt d0 d1 d2 k).toNat := by unfold outW; rw [if_pos h1]
  rw [eo] at hY ⊢
  rw [seqW_len] at hY
  have hk := dimAt_ok hm k
  unfold okD at hk
  obtain ⟨dn, hdn⟩ : ∃ dn : Nat, dimAt d0 d1 d2 k = (dn : Int) := ⟨(dimAt d0 d1 d2 k).toNat, by omega⟩
  have edn : (dimAt d0 d1 d2 k).toNat = dn := by omega
  rw [edn] at hY ⊢
  have hdn1 : 1 ≤ dn ∧ dn ≤ 16 := by omega
  have HN : Hid (0 ≤ m ∧ m < d0 * d1 * d2) := hn
  have HY : Hid (∀ pre x W1, J pre W1 → pre.length < dn → YieldAt Fence.wide (n - 1) Tryd.prog l #[I x] W1 fun e W' =>
      (e = .returned (.bool true) ∧ J (pre ++ [x]) W' ∧ Below n₀ W1 W') ∨ (e = .returned (.bool false) ∧ Jx (pre ++ [x]) W')) := hY
  have HS : Hid (∀ (i : Nat) w, Calls Tryd.prog 47 #[A3 d0 d1 d2, I m, I (axI k), I (i : Int)] w fun x W' => x = .returned (.tuple #[I (onD d0 d1 d2 m k i), I 0]) ∧ Below w.heap.size w W') := fun i w => step_yes w hm hn k
  have HL : Hid (∀ (i : Nat) w, Calls Tryd.prog 74 #[A3 d0 d1 d2, I (axI k), I (onD d0 d1 d2 m k i)] w fun x W' => x = .returned (.tuple #[I (cabW d0 d1 d2 k (onD d0 d1 d2 m k i)), I 0]) ∧ Below w.heap.size w W') := fun i w => link_yes w hm (on_node hm hn k i) rfl h1
  have HSu : Hid (∀ i : Nat, seqW d0 d1 d2 m k (i + 1) = seqW d0 d1 d2 m k i ++ [cabW d0 d1 d2 k (onD d0 d1 d2 m k (i : Int))]) := fun i => seqW_succ d0 d1 d2 m k i
  have HPre : Hid (∀ {i j : Nat}, i ≤ j → seqW d0 d1 d2 m k i <+: seqW d0 d1 d2 m k j) := fun h => seqW_pre d0 d1 d2 m k h
  have HJ : Hid (AbidesFrom W.heap.size J) := hJ
  have HLen : Hid (∀ i, (seqW d0 d1 d2 m k i).length = i) := fun i => seqW_len d0 d1 d2 m k i
  have hS0 : seqW d0 d1 d2 m k 0 = [] := rfl
  generalize hC : (fun i : Nat => cabW d0 d1 d2 k (onD d0 d1 d2 m k (i : Int))) = C at *
  generalize hO : (fun i : Nat => onD d0 d1 d2 m k (i : Int)) = O at *
  have HC : Hid (∀ i : Nat, cabW d0 d1 d2 k (onD d0 d1 d2 m k (i : Int)) = C i) := fun i => congrFun hC i
  have HO : Hid (∀ i : Nat, onD d0 d1 d2 m k (i : Int) = O i) := fun i => congrFun hO i
  have HS2 : Hid (∀ (i : Nat) w, Calls Tryd.prog 47 #[A3 d0 d1 d2, I m, I (axI k), I (i : Int)] w fun x W' => x = .returned (.tuple #[I (O i), I 0]) ∧ Below w.heap.size w W') := fun i w => by rw [← HO.out i]; exact HS.out i w
  have HL2 : Hid (∀ (i : Nat) w, Calls Tryd.prog 74 #[A3 d0 d1 d2, I (axI k), I (O i)] w fun x W' => x = .returned (.tuple #[I (C i), I 0]) ∧ Below w.heap.size w W') := fun i w => by rw [← HO.out i, ← HC.out i]; exact HL.out i w
  have HSu2 : Hid (∀ i : Nat, seqW d0 d1 d2 m k (i + 1) = seqW d0 d1 d2 m k i ++ [C i]) := fun i => by rw [← HC.out i]; exact HSu.out i
  generalize seqW d0 d1 d2 m k = S at *
  have b0 := bd.cell 0
  have b1 := bd.cell 1
  have b2 := bd.cell 2
  have a0 := ba.cell 0
  simp at b0 b1 b2 a0
  have hid : Hid (W.cell? ⟨Bd, (axI k).toNat, none⟩ = some (I (dn : Int))) := by
    rw [← hdn]
    rcases fin3 k with rfl | rfl | rfl
    · exact bd.cell 0
    · exact bd.cell 1
    · exact bd.cell 2
  clear hn hY hJ HS HL HSu hC hO HC HO eo edn hk
  rcases fin3 k with rfl | rfl | rfl
  all_goals
    simp only [axI, dimAt] at *
    subst hdn
    refine callsIn_of_wp Tryd.func73 rfl trivial ?_ rfl
    simp only [Tryd.ntmps73, List.size_toArray, List.length_cons, List.length_nil, Nat.reduceAdd, Nat.reduceSub, Array.replicate_succ, Array.replicate_zero, List.push_toArray, List.append_toArray, List.nil_append, List.cons_append]
    gi_wp2
    gi_loopw [12] (fun i wr => ∃ j : Nat, j ≤ dn ∧ i = .int .i64 j ∧ J (S j) wr ∧ Below n₀ W wr) (fun i _ => dn - (RowKit.intOf i).toNat)
    case atStart => exact ⟨0, by omega, rfl, by rw [hS0]; exact h0, Below.refl _ _⟩
    case round =>
      obtain ⟨j, hj, rfl, hJj, hT⟩ := hrel
      have bd' := bd.below hT hd
      have ba' := ba.below hT ha
      have bm' := bm.below hT hmm
      have c0 := bd'.cell 0
      have c1 := bd'.cell 1
      have c2 := bd'.cell 2
      have c3 := ba'.cell 0
      have c4 := bm'.cell 0
      simp at c0 c1 c2 c3 c4
      by_cases hlt : (j : Int) < (dn : Int)
      · gi_wp2_with fail
        refine ⟨trivial, (callsIn_wide.2 (HS2.out j wr)).mono ?_⟩
        rintro e w1 ⟨rfl, hB1⟩
        have bd1 := bd'.later hB1
        have ba1 := ba'.later hB1
        have bm1 := bm'.later hB1
        have e0 := bd1.cell 0
        have e1 := bd1.cell 1
        have e2 := bd1.cell 2
        have e3 := ba1.cell 0
        simp at e0 e1 e2 e3
        gi_wp2_with fail
        refine ⟨trivial, (callsIn_wide.2 (HL2.out j w1)).mono ?_⟩
        rintro e w2 ⟨rfl, hB2⟩
        have hJ2 : J (S j) w2 := abide_below HJ.out (abide_below HJ.out hJj hB1) hB2
        have hT2 : Below n₀ W w2 := hT.trans ((then_below hB1 hB2).mono (by have := hT.size; omega))
        obtain ⟨f1, t1, as1, bo1, hy1, hR1⟩ := HY.out (S j) (C j) w2 hJ2 (by rw [HLen.out]; omega)
        gi_wp2
        refine hR1.mono ?_
        rintro e W3 (⟨rfl, hJ3, hk3⟩ | ⟨rfl, hJx3⟩)
        · gi_wp2
          go_roundw
          case rel => exact ⟨j + 1, by omega, by go_num, by rw [HSu2.out]; exact hJ3, hT2.trans hk3⟩
          case measure => simp [RowKit.intOf]; omega
        · gi_wp2
          refine bodyPost_ret (results_none rfl _ _ _) rfl ?_
          exact ⟨⟨_, rfl⟩, .inr ⟨_, by rw [← HSu2.out]; exact HPre.out (by omega), hJx3⟩⟩
      · obtain rfl : j = dn := by omega
        gi_wp2
        go_end0
        exact ⟨⟨_, rfl⟩, .inl hJj⟩

set_option maxRecDepth 100000 in
set_option maxHeartbeats 2000000 in
/-- .. along one that has none: no round. -/
theorem line1_no {d0 d1 d2 m : Int} (hm : mayD d0 d1 d2) (hn : 0 ≤ m ∧ m < d0 * d1 * d2) (k : Fin 3) (h1 : ¬ 1 < dimAt d0 d1 d2 k) (n : Nat) (h1n : 1 ≤ n) (l Bd Ba Bm : Nat) (J : List Int → World → Prop) (W : World)
    (bd : Blk W Bd 26 #[I d0, I d1, I d2]) (ba : Blk W Ba 3 #[I (axI k)]) (bm : Blk W Bm 3 #[I m]) (hJ : AbidesFrom W.heap.size J) (h0 : J [] W) :
    CallsIn Fence.wide n Tryd.prog 73 #[.func (.yield l) #[] #[], .pointer (some ⟨Bd, 0, none⟩), .pointer (some ⟨Ba, 0, none⟩), .pointer (some ⟨Bm, 0, none⟩)] W fun e W' =>
      (∃ v, e = .returned v) ∧ J [] W' := by
  have hk := dimAt_ok hm k
  unfold okD at hk
  have hdn : dimAt d0 d1 d2 k = 1 := by omega
  have HJ : Hid (AbidesFrom W.heap.size J) := hJ
  have HS : Hid (∀ w, Calls Tryd.prog 47 #[A3 d0 d1 d2, I m, I (axI k), I 0] w fun x W' => x = .returned (.tuple #[I (onD d0 d1 d2 m k 0), I 0]) ∧ Below w.heap.size w W') := fun w => step_yes w hm hn k
  have HL : Hid (∀ w, Calls Tryd.prog 74 #[A3 d0 d1 d2, I (axI k), I (onD d0 d1 d2 m k 0)] w fun x W' => x = .returned (.tuple #[I 0, I 6]) ∧ Below w.heap.size w W') := fun w => link_none w hm (on_node hm hn k 0) rfl h1
  generalize onD d0 d1 d2 m k 0 = o at *
  have b0 := bd.cell 0
  have b1 := bd.cell 1
  have b2 := bd.cell 2
  have a0 := ba.cell 0
  have m0 := bm.cell 0
  simp at b0 b1 b2 a0 m0
  clear hn hJ h1 hk
  rcases fin3 k with rfl | rfl | rfl
  all_goals
    simp only [axI, dimAt] at *
    subst hdn
    refine callsIn_of_wp Tryd.func73 rfl trivial ?_ rfl
    simp only [Tryd.ntmps73, List.size_toArray, List.length_cons, List.length_nil, Nat.reduceAdd, Nat.reduceSub, Array.replicate_succ, Array.replicate_zero, List.push_toArray, List.append_toArray, List.nil_append, List.cons_append]
    gi_wp2
    gi_loopw [12] (fun i wr => i = .int .i64 0 ∧ wr = W) (fun _ _ => 0)
    case atStart => exact ⟨rfl, by trivial⟩
    case round =>
      obtain ⟨rfl, hw⟩ := hrel
      subst hw
      gi_wp2_with fail
      refine ⟨trivial, (callsIn_wide.2 (HS.out wr)).mono ?_⟩
      rintro e w1 ⟨rfl, hB1⟩
      have bd1 := bd.later hB1
      have ba1 := ba.later hB1
      have e0 := bd1.cell 0
      have e1 := bd1.cell 1
      have e2 := bd1.cell 2
      have e3 := ba1.cell 0
      simp at e0 e1 e2 e3
      gi_wp2_with fail
      refine ⟨trivial, (callsIn_wide.2 (HL.out w1)).mono ?_⟩
      rintro e w2 ⟨rfl, hB2⟩
      have hJ2 : J [] w2 := abide_below HJ.out (abide_below HJ.out h0 hB1) hB2
      gi_wp2
      refine ⟨fun f h => (by cases h), ?_⟩
      gi_wp2
      refine bodyPost_ret (results_none rfl _ _ _) rfl ?_
      exact ⟨⟨_, rfl⟩, hJ2⟩

/-- What wire.line hands back, as a range over it asks. -/
theorem line_stops {d0 d1 d2 m : Int} (hm : mayD d0 d1 d2) (hn : 0 ≤ m ∧ m < d0 * d1 * d2) (k : Fin 3) (n : Nat) (h1n : 1 ≤ n) (Bd Ba Bm n₀ : Nat) (w : World)
    (hd : Bd < n₀) (ha : Ba < n₀) (hmm : Bm < n₀) (hn₀ : n₀ ≤ w.heap.size) (bd : Blk w Bd 26 #[I d0, I d1, I d2]) (ba : Blk w Ba 3 #[I (axI k)]) (bm : Blk w Bm 3 #[I m]) :
    SeqStopsK Fence.wide n Tryd.prog 73 #[.pointer (some ⟨Bd, 0, none⟩), .pointer (some ⟨Ba, 0, none⟩), .pointer (some ⟨Bm, 0, none⟩)] (fun x : Int => #[I x]) (Below n₀) (fun xs => xs = outW d0 d1 d2 m k) (fun pre => pre <+: outW d0 d1 d2 m k) (outW d0 d1 d2 m k).length w := fun l J Jx W hW hJ _ hY h0 => by
  have hB := hW.mono hn₀
  by_cases h1 : 1 < dimAt d0 d1 d2 k
  · exact line1_yes hm hn k h1 n h1n l Bd Ba Bm n₀ J Jx W hd ha hmm (Nat.le_trans hn₀ hW.size) (bd.below hB hd) (ba.below hB ha) (bm.below hB hmm) hJ hY h0
  · refine (line1_no hm hn k h1 n h1n l Bd Ba Bm J W (bd.below hB hd) (ba.below hB ha) (bm.below hB hmm) hJ h0).mono ?_
    rintro e W' ⟨he, hj⟩
    exact ⟨he, .inl ⟨[], by unfold outW; rw [if_neg h1], hj⟩⟩

end Go.Proofs.YtbedhpooeabehaaDoor

/-
  slices.Sort over a list of whole numbers of a call's own, by the library's contract: the same numbers, sorted.
-/
namespace Go.Proofs.YtbedhpooeabehaaDoor
open Go Go.RowKit Go.Shelf Go.Sort Go.Lib

shelf_lay Lays.n189 Nm 189 at Tryd as sortI

/-- 'slices.Sort(list)'. -/
theorem sort_calls {base : Nat} {v : Value} {xs : List Int} (w : World) (hL : Lst w base v xs) (hv : v ≠ .slice none 0 0) (hn : xs.length ≤ 100000) :
    Calls Tryd.prog 72 #[v] w fun e W' => e = .returned (.tuple #[]) ∧ Lst W' base v (xs.mergeSort fun x y => decide (x ≤ y)) ∧ Below base w W' ∧ w.grownBy W' v.ownBlock := by
  obtain ⟨h1, h2⟩ := hL
  rcases h2 with ⟨h0, _⟩ | ⟨g, cap, cur, rfl, hg, hh, hc, hc2, hs, ht⟩
  · exact absurd h0 hv
  · have ht' : cur.toList.take xs.length = xs.map (Value.int .i64) := by simpa using ht
    have hcon := Any.slices_Sort_int sortI g 0 cap xs w (holds_of_blockI hh ht') (Array.getElem?_eq_some_iff.1 hh).1 (by omega)
    change Calls Tryd.prog 72 _ _ _ at hcon
    refine hcon.mono ?_
    rintro e W' ⟨rfl, n, os, rfl⟩
    have hl : (xs.mergeSort fun x y => decide (x ≤ y)).length = xs.length := List.length_mergeSort _
    refine ⟨rfl, ?_, ?_, grownBy_sortedI _⟩
    · have := ownsRow_sortedI (n := n) (os := os) (ts := xs.mergeSort fun x y => decide (x ≤ y)) hl hg hh hc hc2 hs
      unfold Lst
      rw [hl]
      exact this
    · exact (Below.refl base w).grown (grownBy_sortedI _) (Nat.le_trans hg (Nat.le_of_lt (Array.getElem?_eq_some_iff.1 hh).1)) (fun k hk => by cases hk; exact hg)

end Go.Proofs.YtbedhpooeabehaaDoor

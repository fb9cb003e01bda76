/-
  tidehallref06.Cables: the document's own list of the cables that a place takes.
-/
import Derived.Test.YtbedhpooeabehaaGreatDoorPart20
import Derived.Test.YtbedhpooeabehaaGreatDoorPart13
namespace Go.Proofs.YtbedhpooeabehaaGreatDoor
open Go Go.RowKit Go.Shelf

attribute [local go_sem] Oper.semAt_some ext_const jx0 jx1 jx2

/-- 'append(list, more...)' at a region's end. -/
theorem wpListIn_cat {F : Fence} {n : Nat} {ops : Array Oper} {rest : List Oper} {o : Oper} {a : Act} {Q : Exit → Act → World → Prop} {W : World} {base b2 : Nat} {v u : Value} {xs ys : List Int} (hF : Loose F Tryz.prog) (hgd : o.guard = none) (s x : Operand)
    (ho : o.op = .call { callee := .builtin .append, args := #[s, x], argTypes := #[57, 57] }) (hs : a.eval s = v) (hx : a.eval x = u)
    (hown : Lst W base v xs) (hu : Lst W b2 u ys) (hl : xs.length ≤ 100000) (hl2 : ys.length ≤ 100000) (hb : base ≤ W.heap.size)
    (h : ∀ v' w', Lst w' base v' (xs ++ ys) → Below base W w' → wpListIn F n Tryz.prog ops Q rest (a.put o.dst v') w') : wpListIn F n Tryz.prog ops Q (o :: rest) a W := by
  obtain ⟨v', w', hr, h1, h2⟩ := cat_run s x ho hs hx hown hu hl hl2 hb
  exact wpListIn_value hF hgd (fun c e => by rw [ho] at e; cases e) hr (h v' w' h1 h2)

/-- The midplanes of a box that lie at its beginning along an axis. -/
def atB (d0 d1 : Int) (b : Bx) (k : Fin 3) (m : Int) : Bool := decide (coK d0 d1 m k = bAt b k)
theorem first_filter {d0 d1 d2 : Int} {b : Bx} (h : mayD d0 d1 d2) (hb : mayB d0 d1 d2 b) (k : Fin 3) : (nodesB d0 d1 d2 b).filter (atB d0 d1 b k) = nodesB d0 d1 d2 (upB b 1 k) := by
  unfold nodesB nodesTo
  rw [List.filter_map, List.filter_filter]
  congr 1
  refine List.filter_congr fun m hm => ?_
  have hN := List.mem_range.1 hm
  rw [Bool.eq_iff_iff, first_has h hb (by omega) k, Bool.and_eq_true]
  simp only [Function.comp_apply, atB, decide_eq_true_eq]
  exact ⟨fun ⟨a, b⟩ => ⟨b, a⟩, fun ⟨a, b⟩ => ⟨b, a⟩⟩

/-- What is gathered along an axis of the first j midplanes. -/
def gathK (d0 d1 d2 : Int) (b : Bx) (k : Fin 3) (mo : Nat) (l : List Int) : List Int := (l.filter (atB d0 d1 b k)).flatMap fun m => cablesW d0 d1 d2 m k mo
theorem gath_yes {d0 d1 d2 : Int} {b : Bx} {k : Fin 3} {mo : Nat} {l : List Int} {m : Int} (h : atB d0 d1 b k m = true) : gathK d0 d1 d2 b k mo (l ++ [m]) = gathK d0 d1 d2 b k mo l ++ cablesW d0 d1 d2 m k mo := by simp [gathK, List.filter_append, h]
theorem gath_no {d0 d1 d2 : Int} {b : Bx} {k : Fin 3} {mo : Nat} {l : List Int} {m : Int} (h : atB d0 d1 b k m = false) : gathK d0 d1 d2 b k mo (l ++ [m]) = gathK d0 d1 d2 b k mo l := by simp [gathK, List.filter_append, h]
theorem gath_le {d0 d1 d2 : Int} {b : Bx} {k : Fin 3} {mo : Nat} {l : List Int} (j : Nat) : (gathK d0 d1 d2 b k mo (l.take j)).length ≤ (gathK d0 d1 d2 b k mo l).length := by
  have e : gathK d0 d1 d2 b k mo l = gathK d0 d1 d2 b k mo (l.take j) ++ gathK d0 d1 d2 b k mo (l.drop j) := by
    unfold gathK
    rw [← List.flatMap_append, ← List.filter_append, List.take_append_drop]
  rw [e, List.length_append]
  omega

/-- What each operation of the statement that gathers a line's cables keeps. -/
def wordG (d0 d1 d2 m k s : Int) (t : Bool) (vo vl : Value) (j : Int) (g off : Nat) (B o1 o2 base : Nat) (X : List Int) (i : Nat) (v : Value) (w : World) : Prop :=
  match i with
  | 0 => v = vo
  | 1 => v = A3 d0 d1 d2
  | 2 => v = I k
  | 3 => v = vl
  | 4 => v = I j
  | 5 => v = .pointer (some ⟨g, off, none⟩)
  | 6 => v = I m
  | 7 => v = I k
  | 8 => v = .pointer (some ⟨B, 0, none⟩)
  | 9 => v = .pointer (some ⟨B, 3, none⟩)
  | 10 => v = .pointer (some ⟨B, o1, none⟩)
  | 11 => v = I s
  | 12 => v = I k
  | 13 => v = .pointer (some ⟨B, 6, none⟩)
  | 14 => v = .pointer (some ⟨B, o2, none⟩)
  | 15 => v = .bool t
  | 16 => Lst w base v X
  | _ => False
theorem wordG_later {d0 d1 d2 m k s : Int} {t : Bool} {vo vl : Value} {j : Int} {g off B o1 o2 base : Nat} {X : List Int} (i : Nat) (v : Value) (w w' : World) (h : wordG d0 d1 d2 m k s t vo vl j g off B o1 o2 base X i v w) (hB : Below w.heap.size w w') : wordG d0 d1 d2 m k s t vo vl j g off B o1 o2 base X i v w' := by
  match i, h with
  | 0, h => exact h
  | 1, h => exact h
  | 2, h => exact h
  | 3, h => exact h
  | 4, h => exact h
  | 5, h => exact h
  | 6, h => exact h
  | 7, h => exact h
  | 8, h => exact h
  | 9, h => exact h
  | 10, h => exact h
  | 11, h => exact h
  | 12, h => exact h
  | 13, h => exact h
  | 14, h => exact h
  | 15, h => exact h
  | 16, h => exact h.later hB
  | n + 17, h => exact h.elim

set_option maxRecDepth 100000 in
set_option maxHeartbeats 16000000 in
theorem rcables_calls {d0 d1 d2 : Int} {b : Bx} {t0 t1 t2 : Bool} (w : World) (hm : mayD d0 d1 d2) (hp : mayP d0 d1 d2 b t0 t1 t2) :
    Calls Tryz.prog 58 #[A3 d0 d1 d2, P9 b t0 t1 t2] w fun e W' => ∃ v, e = .returned v ∧ Lst W' w.heap.size v (cabsL d0 d1 d2 b t0 t1 t2) ∧ Below w.heap.size w W' := by
  have hmx : Tryz.prog.follows .mixedOrders = true := by kernel_rfl
  have HAll : Hid (∀ w, Calls Tryz.prog 57 #[A3 d0 d1 d2, B6 b] w fun e W' => ∃ v, e = .returned v ∧ Lst W' w.heap.size v (nodesB d0 d1 d2 b) ∧ Below w.heap.size w W') := fun w => rall_calls w hm hp.1
  have HMem : Hid (∀ j, j < (nodesB d0 d1 d2 b).length → 0 ≤ (nodesB d0 d1 d2 b).getD j 0 ∧ (nodesB d0 d1 d2 b).getD j 0 < d0 * d1 * d2) := fun j hj => by
    rw [List.getD_eq_getElem?_getD, List.getElem?_eq_getElem hj]
    exact (nodesP_mem.1 (List.getElem_mem hj)).1
  have HWh : Hid (∀ (m : Int) w, 0 ≤ m ∧ m < d0 * d1 * d2 → Calls Tryz.prog 44 #[A3 d0 d1 d2, I m] w fun e W' => e = .returned (A3 (cx d0 m) (cy d0 d1 m) (cz d0 d1 m)) ∧ Below w.heap.size w W') := fun m w hn => rwhere_calls w hm hn
  have HTk0 : Hid (∀ (m : Int) w, 0 ≤ m ∧ m < d0 * d1 * d2 → Calls Tryz.prog 74 #[A3 d0 d1 d2, I 0, I m, I b.a, .bool t0] w fun e W' => ∃ v, e = .returned v ∧ Lst W' w.heap.size v (cablesW d0 d1 d2 m 0 (mostW (dimAt d0 d1 d2 0) (sAt b 0) (tK t0 t1 t2 0)).toNat) ∧ Below w.heap.size w W') := fun m w hn => took_calls (k := 0) t0 w hm hn rfl (mayB_at hp.1 0).1
  have HG0 : Hid (gathK d0 d1 d2 b 0 (mostW (dimAt d0 d1 d2 0) (sAt b 0) (tK t0 t1 t2 0)).toNat (nodesB d0 d1 d2 b) = cabK d0 d1 d2 b t0 t1 t2 0) := by show _ = _; unfold gathK cabK; rw [first_filter hm hp.1 0]
  have l0 := cabK_len hm hp 0
  have HL0 : Hid (∀ m, 0 ≤ m ∧ m < d0 * d1 * d2 → (cablesW d0 d1 d2 m 0 (mostW (dimAt d0 d1 d2 0) (sAt b 0) (tK t0 t1 t2 0)).toNat).length ≤ 4096) := fun m hn => by
    have hd := dimAt_ok hm 0
    unfold okD at hd
    rw [most_run hp 0]
    have hz := runS_bd (r := dimAt d0 d1 d2 0) (s := sAt b 0) (tK t0 t1 t2 0) (mayB_at hp.1 0).1
    rw [cables_len hm hn 0 (by omega)]
    split <;> omega
  have HTk1 : Hid (∀ (m : Int) w, 0 ≤ m ∧ m < d0 * d1 * d2 → Calls Tryz.prog 74 #[A3 d0 d1 d2, I 1, I m, I b.b, .bool t1] w fun e W' => ∃ v, e = .returned v ∧ Lst W' w.heap.size v (cablesW d0 d1 d2 m 1 (mostW (dimAt d0 d1 d2 1) (sAt b 1) (tK t0 t1 t2 1)).toNat) ∧ Below w.heap.size w W') := fun m w hn => took_calls (k := 1) t1 w hm hn rfl (mayB_at hp.1 1).1
  have HG1 : Hid (gathK d0 d1 d2 b 1 (mostW (dimAt d0 d1 d2 1) (sAt b 1) (tK t0 t1 t2 1)).toNat (nodesB d0 d1 d2 b) = cabK d0 d1 d2 b t0 t1 t2 1) := by show _ = _; unfold gathK cabK; rw [first_filter hm hp.1 1]
  have l1 := cabK_len hm hp 1
  have HL1 : Hid (∀ m, 0 ≤ m ∧ m < d0 * d1 * d2 → (cablesW d0 d1 d2 m 1 (mostW (dimAt d0 d1 d2 1) (sAt b 1) (tK t0 t1 t2 1)).toNat).length ≤ 4096) := fun m hn => by
    have hd := dimAt_ok hm 1
    unfold okD at hd
    rw [most_run hp 1]
    have hz := runS_bd (r := dimAt d0 d1 d2 1) (s := sAt b 1) (tK t0 t1 t2 1) (mayB_at hp.1 1).1
    rw [cables_len hm hn 1 (by omega)]
    split <;> omega
  have HTk2 : Hid (∀ (m : Int) w, 0 ≤ m ∧ m < d0 * d1 * d2 → Calls Tryz.prog 74 #[A3 d0 d1 d2, I 2, I m, I b.c, .bool t2] w fun e W' => ∃ v, e = .returned v ∧ Lst W' w.heap.size v (cablesW d0 d1 d2 m 2 (mostW (dimAt d0 d1 d2 2) (sAt b 2) (tK t0 t1 t2 2)).toNat) ∧ Below w.heap.size w W') := fun m w hn => took_calls (k := 2) t2 w hm hn rfl (mayB_at hp.1 2).1
  have HG2 : Hid (gathK d0 d1 d2 b 2 (mostW (dimAt d0 d1 d2 2) (sAt b 2) (tK t0 t1 t2 2)).toNat (nodesB d0 d1 d2 b) = cabK d0 d1 d2 b t0 t1 t2 2) := by show _ = _; unfold gathK cabK; rw [first_filter hm hp.1 2]
  have l2 := cabK_len hm hp 2
  have HL2 : Hid (∀ m, 0 ≤ m ∧ m < d0 * d1 * d2 → (cablesW d0 d1 d2 m 2 (mostW (dimAt d0 d1 d2 2) (sAt b 2) (tK t0 t1 t2 2)).toNat).length ≤ 4096) := fun m hn => by
    have hd := dimAt_ok hm 2
    unfold okD at hd
    rw [most_run hp 2]
    have hz := runS_bd (r := dimAt d0 d1 d2 2) (s := sAt b 2) (tK t0 t1 t2 2) (mayB_at hp.1 2).1
    rw [cables_len hm hn 2 (by omega)]
    split <;> omega
  have HCat : Hid (cabsL d0 d1 d2 b t0 t1 t2 = cabK d0 d1 d2 b t0 t1 t2 0 ++ cabK d0 d1 d2 b t0 t1 t2 1 ++ cabK d0 d1 d2 b t0 t1 t2 2) := rfl
  have hXl := nodesB_len hm b
  clear hm hp
  generalize (mostW (dimAt d0 d1 d2 0) (sAt b 0) (tK t0 t1 t2 0)).toNat = mo0 at *
  generalize (mostW (dimAt d0 d1 d2 1) (sAt b 1) (tK t0 t1 t2 1)).toNat = mo1 at *
  generalize (mostW (dimAt d0 d1 d2 2) (sAt b 2) (tK t0 t1 t2 2)).toNat = mo2 at *
  generalize cabK d0 d1 d2 b t0 t1 t2 0 = L0 at *
  generalize cabK d0 d1 d2 b t0 t1 t2 1 = L1 at *
  generalize cabK d0 d1 d2 b t0 t1 t2 2 = L2 at *
  rw [HCat.out]
  generalize nodesB d0 d1 d2 b = X at *
  go_enter Tryz.func58, Tryz.ntmps58
  go_wp2_with fail
  obtain ⟨W, hW, hB0, b0, b1⟩ := two_start w #[I d0, I d1, I d2] (C9 b t0 t1 t2) 23 30
  rw [hW]
  clear hW
  refine (HAll.out _).mono ?_
  rintro e w1 ⟨vl, rfl, hl, hT⟩
  have g0 := b0.later hT
  have g1 := b1.later hT
  have hB := then_below hB0 hT
  obtain ⟨aX, cX, eX, hvw⟩ := hl.view
  subst eX
  clear hvw hT b0 b1 hB0
  go_wp2_with fail
  go_loopw [5, 7] (fun u i wr => ((i = .int .i64 0 ∧ Lst wr w1.heap.size u []) ∨ (i = .int .i64 1 ∧ Lst wr w1.heap.size u L0) ∨ (i = .int .i64 2 ∧ Lst wr w1.heap.size u (L0 ++ L1)) ∨ (i = .int .i64 3 ∧ Lst wr w1.heap.size u (L0 ++ L1 ++ L2))) ∧ Below w1.heap.size w1 wr) (fun _ i _ => 3 - (RowKit.intOf i).toNat)
  case atStart => exact ⟨.inl ⟨rfl, Lst.nil _ _⟩, Below.refl _ _⟩
  case round =>
    rename World => wo
    obtain ⟨hi, hT⟩ := hrel
    rcases hi with ⟨rfl, hu⟩ | ⟨rfl, hu⟩ | ⟨rfl, hu⟩ | ⟨rfl, hu⟩
    · go_wp2_with fail
      go_loopw [5, 8] (fun u i wr => ∃ j : Nat, j ≤ X.length ∧ i = .int .i64 j ∧ Lst wr w1.heap.size u ([] ++ gathK d0 d1 d2 b 0 mo0 (X.take j)) ∧ Below w1.heap.size w1 wr) (fun _ i _ => X.length - (RowKit.intOf i).toNat)
      case atStart => exact ⟨0, by omega, rfl, by simpa [gathK] using hu, hT⟩
      case round =>
        clear hu hT
        obtain ⟨j, hj, rfl, hu, hT⟩ := hrel
        have q0 := g0.later hT
        have q1 := g1.later hT
        by_cases hlt : (j : Int) < (X.length : Int)
        · have hjl : j < X.length := by omega
          obtain ⟨ao, cap, eg, hvw⟩ := hl.view
          simp only [Value.slice.injEq] at eg
          obtain ⟨eg, -, -⟩ := eg
          subst eg
          obtain ⟨g, cur, rfl, hg, hc⟩ := hvw j hjl
          have gg := hg.later hT
          clear hvw hg
          have hmem := HMem.out j hjl
          have KW : Hid (∀ w, Calls Tryz.prog 44 #[A3 d0 d1 d2, I (X.getD j 0)] w fun e W' => e = .returned (A3 (cx d0 (X.getD j 0)) (cy d0 d1 (X.getD j 0)) (cz d0 d1 (X.getD j 0))) ∧ Below w.heap.size w W') := fun w => HWh.out _ w hmem
          have KT : Hid (∀ w, Calls Tryz.prog 74 #[A3 d0 d1 d2, I 0, I (X.getD j 0), I b.a, .bool t0] w fun e W' => ∃ v, e = .returned v ∧ Lst W' w.heap.size v (cablesW d0 d1 d2 (X.getD j 0) 0 mo0) ∧ Below w.heap.size w W') := fun w => HTk0.out _ w hmem
          have hzl := HL0.out _ hmem
          have KY : Hid (atB d0 d1 b 0 (X.getD j 0) = true → gathK d0 d1 d2 b 0 mo0 (X.take (j + 1)) = gathK d0 d1 d2 b 0 mo0 (X.take j) ++ cablesW d0 d1 d2 (X.getD j 0) 0 mo0) := fun h => by
            rw [List.take_succ_eq_append_getElem hjl, ← gath_yes h, List.getD_eq_getElem?_getD, List.getElem?_eq_getElem hjl]; rfl
          have KN : Hid (atB d0 d1 b 0 (X.getD j 0) = false → gathK d0 d1 d2 b 0 mo0 (X.take (j + 1)) = gathK d0 d1 d2 b 0 mo0 (X.take j)) := fun h => by
            rw [List.take_succ_eq_append_getElem hjl, ← gath_no (d2 := d2) (mo := mo0) (l := X.take j) h, List.getD_eq_getElem?_getD, List.getElem?_eq_getElem hjl]; rfl
          have hlong : ([] ++ gathK d0 d1 d2 b 0 mo0 (X.take j)).length ≤ 100000 := by
            have h1 := gath_le (d0 := d0) (d1 := d1) (d2 := d2) (b := b) (k := 0) (mo := mo0) (l := X) j
            rw [HG0.out] at h1
            rw [List.nil_append]; omega
          obtain ⟨ys, hys⟩ : ∃ ys, ys = [] ++ gathK d0 d1 d2 b 0 mo0 (X.take j) := ⟨_, rfl⟩
          rw [← hys] at hu hlong
          have HYs : Hid (ys = [] ++ gathK d0 d1 d2 b 0 mo0 (X.take j)) := hys
          clear hys
          have HAt : Hid (atB d0 d1 b 0 (X.getD j 0) = (cx d0 (X.getD j 0) == b.x)) := by
            show _ = _
            rw [Bool.eq_iff_iff]
            simp [atB, coK, dimAt, bAt]
          generalize cablesW d0 d1 d2 (X.getD j 0) 0 mo0 = zs at *
          generalize atB d0 d1 b 0 (X.getD j 0) = at_ at *
          have e0 := Ext.cell q0 0
          have e1 := Ext.cell q0 1
          have e2 := Ext.cell q0 2
          have f0 := Ext.cell q1 0
          have f1 := Ext.cell q1 1
          have f2 := Ext.cell q1 2
          simp at e0 e1 e2 f0 f1 f2
          have y0 := Ext.cell gg j
          rw [hc] at y0
          generalize X.getD j 0 = m at *
          have hat := HAt.out
          generalize cx d0 m = co at *
          cases hq : (co == b.x)
          · rw [hq] at hat
            have E := KN.out hat
            go_wp2_with fail
            refine wp_region_look hmx (by kernel_rfl) ?_
            repeat (go_big_quiet_step ((go_at_call 44; exact calls_ext (KW.out _))))
            refine wpQuiet_nil ?_
            intro x
            have hT := then_below hT x.le
            have hu := hu.later x.le
            go_wp2
            go_roundw
            case rel => exact ⟨j + 1, by omega, by go_num, by rw [E, ← HYs.out]; exact hu, hT⟩
            case measure => simp [RowKit.intOf]; omega
          · rw [hq] at hat
            have E := KY.out hat
            have HE : Hid (gathK d0 d1 d2 b 0 mo0 (X.take (j + 1)) = gathK d0 d1 d2 b 0 mo0 (X.take j) ++ zs) := E
            clear E
            go_wp2_with fail
            refine wp_region_look hmx (by kernel_rfl) ?_
            repeat (go_big_quiet_step ((go_at_call 44; exact calls_ext (KW.out _))))
            refine wpQuiet_nil ?_
            intro x
            have hT := then_below hT x.le
            have hu := hu.later x.le
            have q0 := q0.later x.le
            have q1 := q1.later x.le
            have gg := gg.later x.le
            clear e0 e1 e2 f0 f1 f2 y0
            generalize x.wd = wx at *
            clear x
            obtain ⟨au, cu, eu, hvu⟩ := hu.view
            subst eu
            clear hvu
            go_wp2_with fail
            refine wp_region_loud3 (w0 := wx) 17 (wordG d0 d1 d2 m 0 b.a t0 (.slice au ys.length cu) (.slice (some ⟨g, 0, none⟩) X.length cX) j g j (w.heap.size + 1) 3 6 wx.heap.size zs) hmx (by kernel_rfl) wordG_later ?_ ?_
            · intro i o hi a w' hTT hL hpre
              have s2 : a.tmps.getD 2 undef = .pointer (some ⟨w.heap.size, 0, none⟩) := by
                rw [Array.getD_eq_getD_getElem?, hL.out 2 (of_decide_eq_true (by kernel_rfl))]; rfl
              have s3 : a.tmps.getD 3 undef = .pointer (some ⟨w.heap.size + 1, 0, none⟩) := by
                rw [Array.getD_eq_getD_getElem?, hL.out 3 (of_decide_eq_true (by kernel_rfl))]; rfl
              have s5 : a.tmps.getD 5 undef = .slice au ys.length cu := by
                rw [Array.getD_eq_getD_getElem?, hL.out 5 (of_decide_eq_true (by kernel_rfl))]; rfl
              have s6 : a.tmps.getD 6 undef = .slice (some ⟨g, 0, none⟩) X.length cX := by
                rw [Array.getD_eq_getD_getElem?, hL.out 6 (of_decide_eq_true (by kernel_rfl))]; rfl
              have s7 : a.tmps.getD 7 undef = I 0 := by
                rw [Array.getD_eq_getD_getElem?, hL.out 7 (of_decide_eq_true (by kernel_rfl))]; rfl
              have s8 : a.tmps.getD 8 undef = I (j : Int) := by
                rw [Array.getD_eq_getD_getElem?, hL.out 8 (of_decide_eq_true (by kernel_rfl))]; rfl
              obtain ⟨c0, c1, c2, hz⟩ := q0.three hTT
              obtain ⟨⟨x0, x1, x2⟩, ⟨x3, x4, x5⟩, ⟨x6, x7, x8⟩, hz1⟩ := q1.nine hTT
              have cj := (gg.later hTT).cell j
              rw [hc] at cj
              clear hL
              match i, hi with
              | 0, hi =>
                obtain rfl := Option.some.inj hi
                refine .inl ⟨_, ?_, rfl⟩
                simp [execOp, go_sem, Act.eval, s5]
              | 1, hi =>
                obtain rfl := Option.some.inj hi
                refine .inl ⟨A3 d0 d1 d2, ?_, rfl⟩
                simp [execOp, go_sem, Act.eval, s2, c0, c1, c2]
              | 2, hi =>
                obtain rfl := Option.some.inj hi
                refine .inl ⟨I 0, ?_, rfl⟩
                simp [execOp, go_sem, Act.eval, s7]
              | 3, hi =>
                obtain rfl := Option.some.inj hi
                refine .inl ⟨_, ?_, rfl⟩
                simp [execOp, go_sem, Act.eval, s6]
              | 4, hi =>
                obtain rfl := Option.some.inj hi
                refine .inl ⟨_, ?_, rfl⟩
                simp [execOp, go_sem, Act.eval, s8]
              | 5, hi =>
                obtain rfl := Option.some.inj hi
                have p0 : a.tmps.getD 40 undef = .slice (some ⟨g, 0, none⟩) X.length cX := hpre ⟨3, .data⟩ (by simp) rfl
                have p1 : a.tmps.getD 41 undef = I (j : Int) := hpre ⟨4, .data⟩ (by simp) rfl
                refine .inl ⟨.pointer (some ⟨g, j, none⟩), ?_, rfl⟩
                simp [execOp, go_sem, Act.eval, p0, p1, hjl]
              | 6, hi =>
                obtain rfl := Option.some.inj hi
                have p0 : a.tmps.getD 42 undef = .pointer (some ⟨g, j, none⟩) := hpre ⟨5, .data⟩ (by simp) rfl
                refine .inl ⟨I m, ?_, rfl⟩
                simp [execOp, go_sem, Act.eval, p0, cj]
              | 7, hi =>
                obtain rfl := Option.some.inj hi
                refine .inl ⟨I 0, ?_, rfl⟩
                simp [execOp, go_sem, Act.eval, s7]
              | 8, hi =>
                obtain rfl := Option.some.inj hi
                refine .inl ⟨.pointer (some ⟨w.heap.size + 1, 0, none⟩), ?_, rfl⟩
                simp [execOp, go_sem, Act.eval, s3]
              | 9, hi =>
                obtain rfl := Option.some.inj hi
                have p0 : a.tmps.getD 45 undef = .pointer (some ⟨w.heap.size + 1, 0, none⟩) := hpre ⟨8, .data⟩ (by simp) rfl
                refine .inl ⟨.pointer (some ⟨w.heap.size + 1, 3, none⟩), ?_, rfl⟩
                simp [execOp, go_sem, Act.eval, p0]
              | 10, hi =>
                obtain rfl := Option.some.inj hi
                have p0 : a.tmps.getD 46 undef = .pointer (some ⟨w.heap.size + 1, 3, none⟩) := hpre ⟨9, .data⟩ (by simp) rfl
                have p1 : a.tmps.getD 44 undef = I 0 := hpre ⟨7, .data⟩ (by simp) rfl
                refine .inl ⟨.pointer (some ⟨w.heap.size + 1, 3, none⟩), ?_, rfl⟩
                simp [execOp, go_sem, Act.eval, p0, p1]
              | 11, hi =>
                obtain rfl := Option.some.inj hi
                have p0 : a.tmps.getD 47 undef = .pointer (some ⟨w.heap.size + 1, 3, none⟩) := hpre ⟨10, .data⟩ (by simp) rfl
                refine .inl ⟨I b.a, ?_, rfl⟩
                simp [execOp, go_sem, Act.eval, p0, x3]
              | 12, hi =>
                obtain rfl := Option.some.inj hi
                refine .inl ⟨I 0, ?_, rfl⟩
                simp [execOp, go_sem, Act.eval, s7]
              | 13, hi =>
                obtain rfl := Option.some.inj hi
                refine .inl ⟨.pointer (some ⟨w.heap.size + 1, 6, none⟩), ?_, rfl⟩
                simp [execOp, go_sem, Act.eval, s3]
              | 14, hi =>
                obtain rfl := Option.some.inj hi
                have p0 : a.tmps.getD 50 undef = .pointer (some ⟨w.heap.size + 1, 6, none⟩) := hpre ⟨13, .data⟩ (by simp) rfl
                have p1 : a.tmps.getD 49 undef = I 0 := hpre ⟨12, .data⟩ (by simp) rfl
                refine .inl ⟨.pointer (some ⟨w.heap.size + 1, 6, none⟩), ?_, rfl⟩
                simp [execOp, go_sem, Act.eval, p0, p1]
              | 15, hi =>
                obtain rfl := Option.some.inj hi
                have p0 : a.tmps.getD 51 undef = .pointer (some ⟨w.heap.size + 1, 6, none⟩) := hpre ⟨14, .data⟩ (by simp) rfl
                refine .inl ⟨.bool t0, ?_, rfl⟩
                simp [execOp, go_sem, Act.eval, p0, x6]
              | 16, hi =>
                obtain rfl := Option.some.inj hi
                have p0 : a.tmps.getD 38 undef = A3 d0 d1 d2 := hpre ⟨1, .data⟩ (by simp) rfl
                have p1 : a.tmps.getD 39 undef = I 0 := hpre ⟨2, .data⟩ (by simp) rfl
                have p2 : a.tmps.getD 43 undef = I m := hpre ⟨6, .data⟩ (by simp) rfl
                have p3 : a.tmps.getD 48 undef = I b.a := hpre ⟨11, .data⟩ (by simp) rfl
                have p4 : a.tmps.getD 52 undef = .bool t0 := hpre ⟨15, .data⟩ (by simp) rfl
                refine .inr ⟨74, #[A3 d0 d1 d2, I 0, I m, I b.a, .bool t0], ?_, ?_⟩
                · simp [go_sem, Act.eval, p0, p1, p2, p3, p4]
                · refine (KT.out w').mono ?_
                  rintro e w'' ⟨u, rfl, hl, hB⟩
                  exact ⟨_, rfl, hB, hl.weak hTT.size⟩
              | n + 17, hi => simp at hi
            · intro vs w2 hT2 hall
              have h0 : vs 0 = .slice au ys.length cu := hall 0 (by decide)
              have hZ : Lst w2 wx.heap.size (vs 16) zs := hall 16 (by decide)
              clear hall
              simp only [List.take_succ_cons, List.take_zero, List.drop_succ_cons, List.drop_zero, List.length_cons, List.length_nil, Nat.zero_add, Nat.reduceAdd, List.range, List.range.loop, List.foldl_cons, List.foldl_nil, dstOf, List.getElem?_cons_zero, List.getElem?_cons_succ, Option.getD_some, Act.put, h0, List.setIfInBounds_toArray, List.set_cons_succ, List.set_cons_zero]
              clear h0
              generalize vs 16 = uz at *
              generalize vs 1 = y1
              generalize vs 2 = y2
              generalize vs 3 = y3
              generalize vs 4 = y4
              generalize vs 5 = y5
              generalize vs 6 = y6
              generalize vs 7 = y7
              generalize vs 8 = y8
              generalize vs 9 = y9
              generalize vs 10 = y10
              generalize vs 11 = y11
              generalize vs 12 = y12
              generalize vs 13 = y13
              generalize vs 14 = y14
              generalize vs 15 = y15
              clear vs
              have hT3 := then_below hT hT2
              refine wpListIn_cat (loose_wide _) rfl _ _ rfl rfl rfl (hu.later hT2) hZ hlong (by omega) hT3.size ?_
              intro v3 w3 hv3 hB3
              refine wpListIn_value (loose_wide _) rfl (fun c e => by cases e) (v := v3) (w' := w3) (by simp [execOp, go_sem, Act.eval, Act.put]) ?_
              have hT4 : Below w1.heap.size w1 w3 := hT3.trans hB3
              simp only [wpListIn, Act.put, List.setIfInBounds_toArray, List.set_cons_succ, List.set_cons_zero]
              go_wp2
              go_roundw
              case rel => exact ⟨j + 1, by omega, by go_num, by rw [HE.out, ← List.append_assoc, ← HYs.out]; exact hv3, hT4⟩
              case measure => simp [RowKit.intOf]; omega
        · have e : j = X.length := by omega
          subst e
          rw [List.take_length, HG0.out] at hu
          rw [List.nil_append] at hu
          go_wp2
          go_roundw
          case rel => exact ⟨.inr (.inl ⟨rfl, hu⟩), hT⟩
          case measure => simp [RowKit.intOf]
    · go_wp2_with fail
      go_loopw [5, 8] (fun u i wr => ∃ j : Nat, j ≤ X.length ∧ i = .int .i64 j ∧ Lst wr w1.heap.size u (L0 ++ gathK d0 d1 d2 b 1 mo1 (X.take j)) ∧ Below w1.heap.size w1 wr) (fun _ i _ => X.length - (RowKit.intOf i).toNat)
      case atStart => exact ⟨0, by omega, rfl, by simpa [gathK] using hu, hT⟩
      case round =>
        clear hu hT
        obtain ⟨j, hj, rfl, hu, hT⟩ := hrel
        have q0 := g0.later hT
        have q1 := g1.later hT
        by_cases hlt : (j : Int) < (X.length : Int)
        · have hjl : j < X.length := by omega
          obtain ⟨ao, cap, eg, hvw⟩ := hl.view
          simp only [Value.slice.injEq] at eg
          obtain ⟨eg, -, -⟩ := eg
          subst eg
          obtain ⟨g, cur, rfl, hg, hc⟩ := hvw j hjl
          have gg := hg.later hT
          clear hvw hg
          have hmem := HMem.out j hjl
          have KW : Hid (∀ w, Calls Tryz.prog 44 #[A3 d0 d1 d2, I (X.getD j 0)] w fun e W' => e = .returned (A3 (cx d0 (X.getD j 0)) (cy d0 d1 (X.getD j 0)) (cz d0 d1 (X.getD j 0))) ∧ Below w.heap.size w W') := fun w => HWh.out _ w hmem
          have KT : Hid (∀ w, Calls Tryz.prog 74 #[A3 d0 d1 d2, I 1, I (X.getD j 0), I b.b, .bool t1] w fun e W' => ∃ v, e = .returned v ∧ Lst W' w.heap.size v (cablesW d0 d1 d2 (X.getD j 0) 1 mo1) ∧ Below w.heap.size w W') := fun w => HTk1.out _ w hmem
          have hzl := HL1.out _ hmem
          have KY : Hid (atB d0 d1 b 1 (X.getD j 0) = true → gathK d0 d1 d2 b 1 mo1 (X.take (j + 1)) = gathK d0 d1 d2 b 1 mo1 (X.take j) ++ cablesW d0 d1 d2 (X.getD j 0) 1 mo1) := fun h => by
            rw [List.take_succ_eq_append_getElem hjl, ← gath_yes h, List.getD_eq_getElem?_getD, List.getElem?_eq_getElem hjl]; rfl
          have KN : Hid (atB d0 d1 b 1 (X.getD j 0) = false → gathK d0 d1 d2 b 1 mo1 (X.take (j + 1)) = gathK d0 d1 d2 b 1 mo1 (X.take j)) := fun h => by
            rw [List.take_succ_eq_append_getElem hjl, ← gath_no (d2 := d2) (mo := mo1) (l := X.take j) h, List.getD_eq_getElem?_getD, List.getElem?_eq_getElem hjl]; rfl
          have hlong : (L0 ++ gathK d0 d1 d2 b 1 mo1 (X.take j)).length ≤ 100000 := by
            have h1 := gath_le (d0 := d0) (d1 := d1) (d2 := d2) (b := b) (k := 1) (mo := mo1) (l := X) j
            rw [HG1.out] at h1
            rw [List.length_append]; omega
          obtain ⟨ys, hys⟩ : ∃ ys, ys = L0 ++ gathK d0 d1 d2 b 1 mo1 (X.take j) := ⟨_, rfl⟩
          rw [← hys] at hu hlong
          have HYs : Hid (ys = L0 ++ gathK d0 d1 d2 b 1 mo1 (X.take j)) := hys
          clear hys
          have HAt : Hid (atB d0 d1 b 1 (X.getD j 0) = (cy d0 d1 (X.getD j 0) == b.y)) := by
            show _ = _
            rw [Bool.eq_iff_iff]
            simp [atB, coK, dimAt, bAt]
          generalize cablesW d0 d1 d2 (X.getD j 0) 1 mo1 = zs at *
          generalize atB d0 d1 b 1 (X.getD j 0) = at_ at *
          have e0 := Ext.cell q0 0
          have e1 := Ext.cell q0 1
          have e2 := Ext.cell q0 2
          have f0 := Ext.cell q1 0
          have f1 := Ext.cell q1 1
          have f2 := Ext.cell q1 2
          simp at e0 e1 e2 f0 f1 f2
          have y0 := Ext.cell gg j
          rw [hc] at y0
          generalize X.getD j 0 = m at *
          have hat := HAt.out
          generalize cy d0 d1 m = co at *
          cases hq : (co == b.y)
          · rw [hq] at hat
            have E := KN.out hat
            go_wp2_with fail
            refine wp_region_look hmx (by kernel_rfl) ?_
            repeat (go_big_quiet_step ((go_at_call 44; exact calls_ext (KW.out _))))
            refine wpQuiet_nil ?_
            intro x
            have hT := then_below hT x.le
            have hu := hu.later x.le
            go_wp2
            go_roundw
            case rel => exact ⟨j + 1, by omega, by go_num, by rw [E, ← HYs.out]; exact hu, hT⟩
            case measure => simp [RowKit.intOf]; omega
          · rw [hq] at hat
            have E := KY.out hat
            have HE : Hid (gathK d0 d1 d2 b 1 mo1 (X.take (j + 1)) = gathK d0 d1 d2 b 1 mo1 (X.take j) ++ zs) := E
            clear E
            go_wp2_with fail
            refine wp_region_look hmx (by kernel_rfl) ?_
            repeat (go_big_quiet_step ((go_at_call 44; exact calls_ext (KW.out _))))
            refine wpQuiet_nil ?_
            intro x
            have hT := then_below hT x.le
            have hu := hu.later x.le
            have q0 := q0.later x.le
            have q1 := q1.later x.le
            have gg := gg.later x.le
            clear e0 e1 e2 f0 f1 f2 y0
            generalize x.wd = wx at *
            clear x
            obtain ⟨au, cu, eu, hvu⟩ := hu.view
            subst eu
            clear hvu
            go_wp2_with fail
            refine wp_region_loud3 (w0 := wx) 17 (wordG d0 d1 d2 m 1 b.b t1 (.slice au ys.length cu) (.slice (some ⟨g, 0, none⟩) X.length cX) j g j (w.heap.size + 1) 4 7 wx.heap.size zs) hmx (by kernel_rfl) wordG_later ?_ ?_
            · intro i o hi a w' hTT hL hpre
              have s2 : a.tmps.getD 2 undef = .pointer (some ⟨w.heap.size, 0, none⟩) := by
                rw [Array.getD_eq_getD_getElem?, hL.out 2 (of_decide_eq_true (by kernel_rfl))]; rfl
              have s3 : a.tmps.getD 3 undef = .pointer (some ⟨w.heap.size + 1, 0, none⟩) := by
                rw [Array.getD_eq_getD_getElem?, hL.out 3 (of_decide_eq_true (by kernel_rfl))]; rfl
              have s5 : a.tmps.getD 5 undef = .slice au ys.length cu := by
                rw [Array.getD_eq_getD_getElem?, hL.out 5 (of_decide_eq_true (by kernel_rfl))]; rfl
              have s6 : a.tmps.getD 6 undef = .slice (some ⟨g, 0, none⟩) X.length cX := by
                rw [Array.getD_eq_getD_getElem?, hL.out 6 (of_decide_eq_true (by kernel_rfl))]; rfl
              have s7 : a.tmps.getD 7 undef = I 1 := by
                rw [Array.getD_eq_getD_getElem?, hL.out 7 (of_decide_eq_true (by kernel_rfl))]; rfl
              have s8 : a.tmps.getD 8 undef = I (j : Int) := by
                rw [Array.getD_eq_getD_getElem?, hL.out 8 (of_decide_eq_true (by kernel_rfl))]; rfl
              obtain ⟨c0, c1, c2, hz⟩ := q0.three hTT
              obtain ⟨⟨x0, x1, x2⟩, ⟨x3, x4, x5⟩, ⟨x6, x7, x8⟩, hz1⟩ := q1.nine hTT
              have cj := (gg.later hTT).cell j
              rw [hc] at cj
              clear hL
              match i, hi with
              | 0, hi =>
                obtain rfl := Option.some.inj hi
                refine .inl ⟨_, ?_, rfl⟩
                simp [execOp, go_sem, Act.eval, s5]
              | 1, hi =>
                obtain rfl := Option.some.inj hi
                refine .inl ⟨A3 d0 d1 d2, ?_, rfl⟩
                simp [execOp, go_sem, Act.eval, s2, c0, c1, c2]
              | 2, hi =>
                obtain rfl := Option.some.inj hi
                refine .inl ⟨I 1, ?_, rfl⟩
                simp [execOp, go_sem, Act.eval, s7]
              | 3, hi =>
                obtain rfl := Option.some.inj hi
                refine .inl ⟨_, ?_, rfl⟩
                simp [execOp, go_sem, Act.eval, s6]
              | 4, hi =>
                obtain rfl := Option.some.inj hi
                refine .inl ⟨_, ?_, rfl⟩
                simp [execOp, go_sem, Act.eval, s8]
              | 5, hi =>
                obtain rfl := Option.some.inj hi
                have p0 : a.tmps.getD 40 undef = .slice (some ⟨g, 0, none⟩) X.length cX := hpre ⟨3, .data⟩ (by simp) rfl
                have p1 : a.tmps.getD 41 undef = I (j : Int) := hpre ⟨4, .data⟩ (by simp) rfl
                refine .inl ⟨.pointer (some ⟨g, j, none⟩), ?_, rfl⟩
                simp [execOp, go_sem, Act.eval, p0, p1, hjl]
              | 6, hi =>
                obtain rfl := Option.some.inj hi
                have p0 : a.tmps.getD 42 undef = .pointer (some ⟨g, j, none⟩) := hpre ⟨5, .data⟩ (by simp) rfl
                refine .inl ⟨I m, ?_, rfl⟩
                simp [execOp, go_sem, Act.eval, p0, cj]
              | 7, hi =>
                obtain rfl := Option.some.inj hi
                refine .inl ⟨I 1, ?_, rfl⟩
                simp [execOp, go_sem, Act.eval, s7]
              | 8, hi =>
                obtain rfl := Option.some.inj hi
                refine .inl ⟨.pointer (some ⟨w.heap.size + 1, 0, none⟩), ?_, rfl⟩
                simp [execOp, go_sem, Act.eval, s3]
              | 9, hi =>
                obtain rfl := Option.some.inj hi
                have p0 : a.tmps.getD 45 undef = .pointer (some ⟨w.heap.size + 1, 0, none⟩) := hpre ⟨8, .data⟩ (by simp) rfl
                refine .inl ⟨.pointer (some ⟨w.heap.size + 1, 3, none⟩), ?_, rfl⟩
                simp [execOp, go_sem, Act.eval, p0]
              | 10, hi =>
                obtain rfl := Option.some.inj hi
                have p0 : a.tmps.getD 46 undef = .pointer (some ⟨w.heap.size + 1, 3, none⟩) := hpre ⟨9, .data⟩ (by simp) rfl
                have p1 : a.tmps.getD 44 undef = I 1 := hpre ⟨7, .data⟩ (by simp) rfl
                refine .inl ⟨.pointer (some ⟨w.heap.size + 1, 4, none⟩), ?_, rfl⟩
                simp [execOp, go_sem, Act.eval, p0, p1]
              | 11, hi =>
                obtain rfl := Option.some.inj hi
                have p0 : a.tmps.getD 47 undef = .pointer (some ⟨w.heap.size + 1, 4, none⟩) := hpre ⟨10, .data⟩ (by simp) rfl
                refine .inl ⟨I b.b, ?_, rfl⟩
                simp [execOp, go_sem, Act.eval, p0, x4]
              | 12, hi =>
                obtain rfl := Option.some.inj hi
                refine .inl ⟨I 1, ?_, rfl⟩
                simp [execOp, go_sem, Act.eval, s7]
              | 13, hi =>
                obtain rfl := Option.some.inj hi
                refine .inl ⟨.pointer (some ⟨w.heap.size + 1, 6, none⟩), ?_, rfl⟩
                simp [execOp, go_sem, Act.eval, s3]
              | 14, hi =>
                obtain rfl := Option.some.inj hi
                have p0 : a.tmps.getD 50 undef = .pointer (some ⟨w.heap.size + 1, 6, none⟩) := hpre ⟨13, .data⟩ (by simp) rfl
                have p1 : a.tmps.getD 49 undef = I 1 := hpre ⟨12, .data⟩ (by simp) rfl
                refine .inl ⟨.pointer (some ⟨w.heap.size + 1, 7, none⟩), ?_, rfl⟩
                simp [execOp, go_sem, Act.eval, p0, p1]
              | 15, hi =>
                obtain rfl := Option.some.inj hi
                have p0 : a.tmps.getD 51 undef = .pointer (some ⟨w.heap.size + 1, 7, none⟩) := hpre ⟨14, .data⟩ (by simp) rfl
                refine .inl ⟨.bool t1, ?_, rfl⟩
                simp [execOp, go_sem, Act.eval, p0, x7]
              | 16, hi =>
                obtain rfl := Option.some.inj hi
                have p0 : a.tmps.getD 38 undef = A3 d0 d1 d2 := hpre ⟨1, .data⟩ (by simp) rfl
                have p1 : a.tmps.getD 39 undef = I 1 := hpre ⟨2, .data⟩ (by simp) rfl
                have p2 : a.tmps.getD 43 undef = I m := hpre ⟨6, .data⟩ (by simp) rfl
                have p3 : a.tmps.getD 48 undef = I b.b := hpre ⟨11, .data⟩ (by simp) rfl
                have p4 : a.tmps.getD 52 undef = .bool t1 := hpre ⟨15, .data⟩ (by simp) rfl
                refine .inr ⟨74, #[A3 d0 d1 d2, I 1, I m, I b.b, .bool t1], ?_, ?_⟩
                · simp [go_sem, Act.eval, p0, p1, p2, p3, p4]
                · refine (KT.out w').mono ?_
                  rintro e w'' ⟨u, rfl, hl, hB⟩
                  exact ⟨_, rfl, hB, hl.weak hTT.size⟩
              | n + 17, hi => simp at hi
            · intro vs w2 hT2 hall
              have h0 : vs 0 = .slice au ys.length cu := hall 0 (by decide)
              have hZ : Lst w2 wx.heap.size (vs 16) zs := hall 16 (by decide)
              clear hall
              simp only [List.take_succ_cons, List.take_zero, List.drop_succ_cons, List.drop_zero, List.length_cons, List.length_nil, Nat.zero_add, Nat.reduceAdd, List.range, List.range.loop, List.foldl_cons, List.foldl_nil, dstOf, List.getElem?_cons_zero, List.getElem?_cons_succ, Option.getD_some, Act.put, h0, List.setIfInBounds_toArray, List.set_cons_succ, List.set_cons_zero]
              clear h0
              generalize vs 16 = uz at *
              generalize vs 1 = y1
              generalize vs 2 = y2
              generalize vs 3 = y3
              generalize vs 4 = y4
              generalize vs 5 = y5
              generalize vs 6 = y6
              generalize vs 7 = y7
              generalize vs 8 = y8
              generalize vs 9 = y9
              generalize vs 10 = y10
              generalize vs 11 = y11
              generalize vs 12 = y12
              generalize vs 13 = y13
              generalize vs 14 = y14
              generalize vs 15 = y15
              clear vs
              have hT3 := then_below hT hT2
              refine wpListIn_cat (loose_wide _) rfl _ _ rfl rfl rfl (hu.later hT2) hZ hlong (by omega) hT3.size ?_
              intro v3 w3 hv3 hB3
              refine wpListIn_value (loose_wide _) rfl (fun c e => by cases e) (v := v3) (w' := w3) (by simp [execOp, go_sem, Act.eval, Act.put]) ?_
              have hT4 : Below w1.heap.size w1 w3 := hT3.trans hB3
              simp only [wpListIn, Act.put, List.setIfInBounds_toArray, List.set_cons_succ, List.set_cons_zero]
              go_wp2
              go_roundw
              case rel => exact ⟨j + 1, by omega, by go_num, by rw [HE.out, ← List.append_assoc, ← HYs.out]; exact hv3, hT4⟩
              case measure => simp [RowKit.intOf]; omega
        · have e : j = X.length := by omega
          subst e
          rw [List.take_length, HG1.out] at hu
          skip
          go_wp2
          go_roundw
          case rel => exact ⟨.inr (.inr (.inl ⟨rfl, hu⟩)), hT⟩
          case measure => simp [RowKit.intOf]
    · go_wp2_with fail
      go_loopw [5, 8] (fun u i wr => ∃ j : Nat, j ≤ X.length ∧ i = .int .i64 j ∧ Lst wr w1.heap.size u ((L0 ++ L1) ++ gathK d0 d1 d2 b 2 mo2 (X.take j)) ∧ Below w1.heap.size w1 wr) (fun _ i _ => X.length - (RowKit.intOf i).toNat)
      case atStart => exact ⟨0, by omega, rfl, by simpa [gathK] using hu, hT⟩
      case round =>
        clear hu hT
        obtain ⟨j, hj, rfl, hu, hT⟩ := hrel
        have q0 := g0.later hT
        have q1 := g1.later hT
        by_cases hlt : (j : Int) < (X.length : Int)
        · have hjl : j < X.length := by omega
          obtain ⟨ao, cap, eg, hvw⟩ := hl.view
          simp only [Value.slice.injEq] at eg
          obtain ⟨eg, -, -⟩ := eg
          subst eg
          obtain ⟨g, cur, rfl, hg, hc⟩ := hvw j hjl
          have gg := hg.later hT
          clear hvw hg
          have hmem := HMem.out j hjl
          have KW : Hid (∀ w, Calls Tryz.prog 44 #[A3 d0 d1 d2, I (X.getD j 0)] w fun e W' => e = .returned (A3 (cx d0 (X.getD j 0)) (cy d0 d1 (X.getD j 0)) (cz d0 d1 (X.getD j 0))) ∧ Below w.heap.size w W') := fun w => HWh.out _ w hmem
          have KT : Hid (∀ w, Calls Tryz.prog 74 #[A3 d0 d1 d2, I 2, I (X.getD j 0), I b.c, .bool t2] w fun e W' => ∃ v, e = .returned v ∧ Lst W' w.heap.size v (cablesW d0 d1 d2 (X.getD j 0) 2 mo2) ∧ Below w.heap.size w W') := fun w => HTk2.out _ w hmem
          have hzl := HL2.out _ hmem
          have KY : Hid (atB d0 d1 b 2 (X.getD j 0) = true → gathK d0 d1 d2 b 2 mo2 (X.take (j + 1)) = gathK d0 d1 d2 b 2 mo2 (X.take j) ++ cablesW d0 d1 d2 (X.getD j 0) 2 mo2) := fun h => by
            rw [List.take_succ_eq_append_getElem hjl, ← gath_yes h, List.getD_eq_getElem?_getD, List.getElem?_eq_getElem hjl]; rfl
          have KN : Hid (atB d0 d1 b 2 (X.getD j 0) = false → gathK d0 d1 d2 b 2 mo2 (X.take (j + 1)) = gathK d0 d1 d2 b 2 mo2 (X.take j)) := fun h => by
            rw [List.take_succ_eq_append_getElem hjl, ← gath_no (d2 := d2) (mo := mo2) (l := X.take j) h, List.getD_eq_getElem?_getD, List.getElem?_eq_getElem hjl]; rfl
          have hlong : ((L0 ++ L1) ++ gathK d0 d1 d2 b 2 mo2 (X.take j)).length ≤ 100000 := by
            have h1 := gath_le (d0 := d0) (d1 := d1) (d2 := d2) (b := b) (k := 2) (mo := mo2) (l := X) j
            rw [HG2.out] at h1
            rw [List.length_append, List.length_append]; omega
          obtain ⟨ys, hys⟩ : ∃ ys, ys = (L0 ++ L1) ++ gathK d0 d1 d2 b 2 mo2 (X.take j) := ⟨_, rfl⟩
          rw [← hys] at hu hlong
          have HYs : Hid (ys = (L0 ++ L1) ++ gathK d0 d1 d2 b 2 mo2 (X.take j)) := hys
          clear hys
          have HAt : Hid (atB d0 d1 b 2 (X.getD j 0) = (cz d0 d1 (X.getD j 0) == b.z)) := by
            show _ = _
            rw [Bool.eq_iff_iff]
            simp [atB, coK, dimAt, bAt]
          generalize cablesW d0 d1 d2 (X.getD j 0) 2 mo2 = zs at *
          generalize atB d0 d1 b 2 (X.getD j 0) = at_ at *
          have e0 := Ext.cell q0 0
          have e1 := Ext.cell q0 1
          have e2 := Ext.cell q0 2
          have f0 := Ext.cell q1 0
          have f1 := Ext.cell q1 1
          have f2 := Ext.cell q1 2
          simp at e0 e1 e2 f0 f1 f2
          have y0 := Ext.cell gg j
          rw [hc] at y0
          generalize X.getD j 0 = m at *
          have hat := HAt.out
          generalize cz d0 d1 m = co at *
          cases hq : (co == b.z)
          · rw [hq] at hat
            have E := KN.out hat
            go_wp2_with fail
            refine wp_region_look hmx (by kernel_rfl) ?_
            repeat (go_big_quiet_step ((go_at_call 44; exact calls_ext (KW.out _))))
            refine wpQuiet_nil ?_
            intro x
            have hT := then_below hT x.le
            have hu := hu.later x.le
            go_wp2
            go_roundw
            case rel => exact ⟨j + 1, by omega, by go_num, by rw [E, ← HYs.out]; exact hu, hT⟩
            case measure => simp [RowKit.intOf]; omega
          · rw [hq] at hat
            have E := KY.out hat
            have HE : Hid (gathK d0 d1 d2 b 2 mo2 (X.take (j + 1)) = gathK d0 d1 d2 b 2 mo2 (X.take j) ++ zs) := E
            clear E
            go_wp2_with fail
            refine wp_region_look hmx (by kernel_rfl) ?_
            repeat (go_big_quiet_step ((go_at_call 44; exact calls_ext (KW.out _))))
            refine wpQuiet_nil ?_
            intro x
            have hT := then_below hT x.le
            have hu := hu.later x.le
            have q0 := q0.later x.le
            have q1 := q1.later x.le
            have gg := gg.later x.le
            clear e0 e1 e2 f0 f1 f2 y0
            generalize x.wd = wx at *
            clear x
            obtain ⟨au, cu, eu, hvu⟩ := hu.view
            subst eu
            clear hvu
            go_wp2_with fail
            refine wp_region_loud3 (w0 := wx) 17 (wordG d0 d1 d2 m 2 b.c t2 (.slice au ys.length cu) (.slice (some ⟨g, 0, none⟩) X.length cX) j g j (w.heap.size + 1) 5 8 wx.heap.size zs) hmx (by kernel_rfl) wordG_later ?_ ?_
            · intro i o hi a w' hTT hL hpre
              have s2 : a.tmps.getD 2 undef = .pointer (some ⟨w.heap.size, 0, none⟩) := by
                rw [Array.getD_eq_getD_getElem?, hL.out 2 (of_decide_eq_true (by kernel_rfl))]; rfl
              have s3 : a.tmps.getD 3 undef = .pointer (some ⟨w.heap.size + 1, 0, none⟩) := by
                rw [Array.getD_eq_getD_getElem?, hL.out 3 (of_decide_eq_true (by kernel_rfl))]; rfl
              have s5 : a.tmps.getD 5 undef = .slice au ys.length cu := by
                rw [Array.getD_eq_getD_getElem?, hL.out 5 (of_decide_eq_true (by kernel_rfl))]; rfl
              have s6 : a.tmps.getD 6 undef = .slice (some ⟨g, 0, none⟩) X.length cX := by
                rw [Array.getD_eq_getD_getElem?, hL.out 6 (of_decide_eq_true (by kernel_rfl))]; rfl
              have s7 : a.tmps.getD 7 undef = I 2 := by
                rw [Array.getD_eq_getD_getElem?, hL.out 7 (of_decide_eq_true (by kernel_rfl))]; rfl
              have s8 : a.tmps.getD 8 undef = I (j : Int) := by
                rw [Array.getD_eq_getD_getElem?, hL.out 8 (of_decide_eq_true (by kernel_rfl))]; rfl
              obtain ⟨c0, c1, c2, hz⟩ := q0.three hTT
              obtain ⟨⟨x0, x1, x2⟩, ⟨x3, x4, x5⟩, ⟨x6, x7, x8⟩, hz1⟩ := q1.nine hTT
              have cj := (gg.later hTT).cell j
              rw [hc] at cj
              clear hL
              match i, hi with
              | 0, hi =>
                obtain rfl := Option.some.inj hi
                refine .inl ⟨_, ?_, rfl⟩
                simp [execOp, go_sem, Act.eval, s5]
              | 1, hi =>
                obtain rfl := Option.some.inj hi
                refine .inl ⟨A3 d0 d1 d2, ?_, rfl⟩
                simp [execOp, go_sem, Act.eval, s2, c0, c1, c2]
              | 2, hi =>
                obtain rfl := Option.some.inj hi
                refine .inl ⟨I 2, ?_, rfl⟩
                simp [execOp, go_sem, Act.eval, s7]
              | 3, hi =>
                obtain rfl := Option.some.inj hi
                refine .inl ⟨_, ?_, rfl⟩
                simp [execOp, go_sem, Act.eval, s6]
              | 4, hi =>
                obtain rfl := Option.some.inj hi
                refine .inl ⟨_, ?_, rfl⟩
                simp [execOp, go_sem, Act.eval, s8]
              | 5, hi =>
                obtain rfl := Option.some.inj hi
                have p0 : a.tmps.getD 40 undef = .slice (some ⟨g, 0, none⟩) X.length cX := hpre ⟨3, .data⟩ (by simp) rfl
                have p1 : a.tmps.getD 41 undef = I (j : Int) := hpre ⟨4, .data⟩ (by simp) rfl
                refine .inl ⟨.pointer (some ⟨g, j, none⟩), ?_, rfl⟩
                simp [execOp, go_sem, Act.eval, p0, p1, hjl]
              | 6, hi =>
                obtain rfl := Option.some.inj hi
                have p0 : a.tmps.getD 42 undef = .pointer (some ⟨g, j, none⟩) := hpre ⟨5, .data⟩ (by simp) rfl
                refine .inl ⟨I m, ?_, rfl⟩
                simp [execOp, go_sem, Act.eval, p0, cj]
              | 7, hi =>
                obtain rfl := Option.some.inj hi
                refine .inl ⟨I 2, ?_, rfl⟩
                simp [execOp, go_sem, Act.eval, s7]
              | 8, hi =>
                obtain rfl := Option.some.inj hi
                refine .inl ⟨.pointer (some ⟨w.heap.size + 1, 0, none⟩), ?_, rfl⟩
                simp [execOp, go_sem, Act.eval, s3]
              | 9, hi =>
                obtain rfl := Option.some.inj hi
                have p0 : a.tmps.getD 45 undef = .pointer (some ⟨w.heap.size + 1, 0, none⟩) := hpre ⟨8, .data⟩ (by simp) rfl
                refine .inl ⟨.pointer (some ⟨w.heap.size + 1, 3, none⟩), ?_, rfl⟩
                simp [execOp, go_sem, Act.eval, p0]
              | 10, hi =>
                obtain rfl := Option.some.inj hi
                have p0 : a.tmps.getD 46 undef = .pointer (some ⟨w.heap.size + 1, 3, none⟩) := hpre ⟨9, .data⟩ (by simp) rfl
                have p1 : a.tmps.getD 44 undef = I 2 := hpre ⟨7, .data⟩ (by simp) rfl
                refine .inl ⟨.pointer (some ⟨w.heap.size + 1, 5, none⟩), ?_, rfl⟩
                simp [execOp, go_sem, Act.eval, p0, p1]
              | 11, hi =>
                obtain rfl := Option.some.inj hi
                have p0 : a.tmps.getD 47 undef = .pointer (some ⟨w.heap.size + 1, 5, none⟩) := hpre ⟨10, .data⟩ (by simp) rfl
                refine .inl ⟨I b.c, ?_, rfl⟩
                simp [execOp, go_sem, Act.eval, p0, x5]
              | 12, hi =>
                obtain rfl := Option.some.inj hi
                refine .inl ⟨I 2, ?_, rfl⟩
                simp [execOp, go_sem, Act.eval, s7]
              | 13, hi =>
                obtain rfl := Option.some.inj hi
                refine .inl ⟨.pointer (some ⟨w.heap.size + 1, 6, none⟩), ?_, rfl⟩
                simp [execOp, go_sem, Act.eval, s3]
              | 14, hi =>
                obtain rfl := Option.some.inj hi
                have p0 : a.tmps.getD 50 undef = .pointer (some ⟨w.heap.size + 1, 6, none⟩) := hpre ⟨13, .data⟩ (by simp) rfl
                have p1 : a.tmps.getD 49 undef = I 2 := hpre ⟨12, .data⟩ (by simp) rfl
                refine .inl ⟨.pointer (some ⟨w.heap.size + 1, 8, none⟩), ?_, rfl⟩
                simp [execOp, go_sem, Act.eval, p0, p1]
              | 15, hi =>
                obtain rfl := Option.some.inj hi
                have p0 : a.tmps.getD 51 undef = .pointer (some ⟨w.heap.size + 1, 8, none⟩) := hpre ⟨14, .data⟩ (by simp) rfl
                refine .inl ⟨.bool t2, ?_, rfl⟩
                simp [execOp, go_sem, Act.eval, p0, x8]
              | 16, hi =>
                obtain rfl := Option.some.inj hi
                have p0 : a.tmps.getD 38 undef = A3 d0 d1 d2 := hpre ⟨1, .data⟩ (by simp) rfl
                have p1 : a.tmps.getD 39 undef = I 2 := hpre ⟨2, .data⟩ (by simp) rfl
                have p2 : a.tmps.getD 43 undef = I m := hpre ⟨6, .data⟩ (by simp) rfl
                have p3 : a.tmps.getD 48 undef = I b.c := hpre ⟨11, .data⟩ (by simp) rfl
                have p4 : a.tmps.getD 52 undef = .bool t2 := hpre ⟨15, .data⟩ (by simp) rfl
                refine .inr ⟨74, #[A3 d0 d1 d2, I 2, I m, I b.c, .bool t2], ?_, ?_⟩
                · simp [go_sem, Act.eval, p0, p1, p2, p3, p4]
                · refine (KT.out w').mono ?_
                  rintro e w'' ⟨u, rfl, hl, hB⟩
                  exact ⟨_, rfl, hB, hl.weak hTT.size⟩
              | n + 17, hi => simp at hi
            · intro vs w2 hT2 hall
              have h0 : vs 0 = .slice au ys.length cu := hall 0 (by decide)
              have hZ : Lst w2 wx.heap.size (vs 16) zs := hall 16 (by decide)
              clear hall
              simp only [List.take_succ_cons, List.take_zero, List.drop_succ_cons, List.drop_zero, List.length_cons, List.length_nil, Nat.zero_add, Nat.reduceAdd, List.range, List.range.loop, List.foldl_cons, List.foldl_nil, dstOf, List.getElem?_cons_zero, List.getElem?_cons_succ, Option.getD_some, Act.put, h0, List.setIfInBounds_toArray, List.set_cons_succ, List.set_cons_zero]
              clear h0
              generalize vs 16 = uz at *
              generalize vs 1 = y1
              generalize vs 2 = y2
              generalize vs 3 = y3
              generalize vs 4 = y4
              generalize vs 5 = y5
              generalize vs 6 = y6
              generalize vs 7 = y7
              generalize vs 8 = y8
              generalize vs 9 = y9
              generalize vs 10 = y10
              generalize vs 11 = y11
              generalize vs 12 = y12
              generalize vs 13 = y13
              generalize vs 14 = y14
              generalize vs 15 = y15
              clear vs
              have hT3 := then_below hT hT2
              refine wpListIn_cat (loose_wide _) rfl _ _ rfl rfl rfl (hu.later hT2) hZ hlong (by omega) hT3.size ?_
              intro v3 w3 hv3 hB3
              refine wpListIn_value (loose_wide _) rfl (fun c e => by cases e) (v := v3) (w' := w3) (by simp [execOp, go_sem, Act.eval, Act.put]) ?_
              have hT4 : Below w1.heap.size w1 w3 := hT3.trans hB3
              simp only [wpListIn, Act.put, List.setIfInBounds_toArray, List.set_cons_succ, List.set_cons_zero]
              go_wp2
              go_roundw
              case rel => exact ⟨j + 1, by omega, by go_num, by rw [HE.out, ← List.append_assoc, ← HYs.out]; exact hv3, hT4⟩
              case measure => simp [RowKit.intOf]; omega
        · have e : j = X.length := by omega
          subst e
          rw [List.take_length, HG2.out] at hu
          skip
          go_wp2
          go_roundw
          case rel => exact ⟨.inr (.inr (.inr ⟨rfl, hu⟩)), hT⟩
          case measure => simp [RowKit.intOf]
    · go_wp2
      go_ret
      exact ⟨_, rfl, hu.weak hB.size, then_below hB hT⟩

end Go.Proofs.YtbedhpooeabehaaGreatDoor

/-
  The document's Turns: the rotations, rising.
-/
import Derived.Test.YtanhhlekbdhfmaaDoorRefPut
import Derived.Test.YtanhhlekbdhfmaaDoorLoud2
namespace Go.Proofs.YtanhhlekbdhfmaaDoor
open Go Go.RowKit Go.Shelf

attribute [local go_sem] Oper.semAt_some ext_const eq_ints_at eq_bools_at
attribute [local go_sem high] eq_wants

set_option maxRecDepth 100000 in
set_option maxHeartbeats 1000000 in
theorem turns_one {x y z : Int} {p q r : Bool} (w : World) :
    Calls Tryd.prog 25 #[V7 x y z p q r false] w fun e W' => ∃ v, e = .returned v ∧ Wl W' w.heap.size v [(x, y, z, p, q, r, false)] ∧ Below w.heap.size w W' := by
  have hB : Below w.heap.size w ((w.alloc (.cells (cells7 x y z p q r false) 29)).alloc (.cells (cells7 x y z p q r false) 29)) := ((Below.refl _ w).alloc (Nat.le_refl _) _).alloc (by simp) _
  have hO := Wl.one (w.alloc (.cells (cells7 x y z p q r false) 29)) w.heap.size (by simp) x y z p q r false
  have e1 : (w.alloc (.cells (cells7 x y z p q r false) 29)).heap.size = w.heap.size + 1 := by simp
  rw [e1] at hO
  clear e1
  have HO : Hid _ := hO
  clear hO
  go_enter Tryd.func25, Tryd.ntmps25
  go_wp2
  go_ret
  exact ⟨_, rfl, HO.out, hB⟩

theorem Wl.laid (W : World) (base : Nat) (hb : base ≤ W.heap.size) (ws : List Wt) (hl : ws.length ≤ 100) : Wl (W.alloc (.cells (flatW ws).toArray 29)) base (.slice (some ⟨W.heap.size, 0, none⟩) ws.length ws.length) ws :=
  ⟨flatW_len ws, .inr ⟨W.heap.size, ws.length, _, rfl, hb, Blk.new W _ _, Nat.le_refl _, by unfold maxLen; omega, by simp [flatW_len], by rw [← flatW_len]; simp⟩⟩

/-- What each operation of the list's statement leaves. -/
def wordT (x y z : Int) (p q r : Bool) (B : Nat) : Nat → Value → World → Prop
  | 0, v, _ => v = V7 x y z p q r true
  | 1, v, _ => v = V7 y x z q p r true
  | 2, v, _ => v = V7 x y z p q r true
  | 3, v, _ => v = V7 z y x r q p true
  | 4, v, _ => v = V7 x y z p q r true
  | 5, v, _ => v = V7 x z y p r q true
  | 6, v, _ => v = V7 x y z p q r true
  | 7, v, _ => v = V7 y x z q p r true
  | 8, v, _ => v = V7 y z x q r p true
  | 9, v, _ => v = V7 x y z p q r true
  | 10, v, _ => v = V7 y x z q p r true
  | 11, v, _ => v = V7 z x y r p q true
  | 12, v, w => ∃ g, v = .slice (some ⟨g, 0, none⟩) 5 5 ∧ Wl w B v (others (x, y, z, p, q, r, true))
  | 13, v, _ => v = I 5
  | 14, v, _ => v = I 0
  | _, _, _ => False
theorem wordT_later (x y z : Int) (p q r : Bool) (B : Nat) : ∀ i v w w', wordT x y z p q r B i v w → Below w.heap.size w w' → wordT x y z p q r B i v w' := by
  intro i v w w' h hB
  match i, h with
  | 0, h => exact h
  | 1, h => exact h
  | 2, h => exact h
  | 3, h => exact h
  | 4, h => exact h
  | 5, h => exact h
  | 6, h => exact h
  | 7, h => exact h
  | 8, h => exact h
  | 9, h => exact h
  | 10, h => exact h
  | 11, h => exact h
  | 12, h => obtain ⟨g, e, hW⟩ := h; exact ⟨g, e, hW.later hB⟩
  | 13, h => exact h
  | 14, h => exact h
  | n + 15, h => exact h.elim

def foldT (u : Wt) (k : Nat) : List Wt := ((others u).take k).foldl putT [u]
theorem fold_next (u : Wt) {k : Nat} (hk : k < 5) : foldT u (k + 1) = putT (foldT u k) ((others u).getD k default) := by
  have hl : k < (others u).length := hk
  unfold foldT
  rw [List.take_succ_eq_append_getElem hl, List.foldl_append]
  simp [hl]
theorem put_len (l : List Wt) (u : Wt) : (putT l u).length ≤ l.length + 1 := by
  have : ∀ l : List Wt, (insT u l).length = l.length + 1 := by
    intro l
    induction l with
    | nil => rfl
    | cons x l ih => unfold insT; split <;> simp [ih]
  unfold putT
  split
  · omega
  · rw [this]; omega
theorem fold_len (u : Wt) : ∀ k, k ≤ 5 → (foldT u k).length ≤ 1 + k
  | 0, _ => by simp [foldT]
  | k + 1, h => by
    have := fold_len u k (by omega)
    rw [fold_next u (by omega)]
    have := put_len (foldT u k) ((others u).getD k default)
    omega
theorem fold_may {u : Wt} (hu : mayT u) (k : Nat) : ∀ x ∈ foldT u k, mayT x := by
  intro x hx
  unfold foldT at hx
  rw [fold_mem] at hx
  refine (six_may hu ?_).1
  rcases hx with h | h
  · exact List.mem_cons_of_mem _ (List.mem_of_mem_take h)
  · rw [List.mem_singleton.1 h]; simp [six]
theorem others_may {u : Wt} (hu : mayT u) {k : Nat} (hk : k < 5) : mayT ((others u).getD k default) := by
  have hl : k < (others u).length := hk
  refine (six_may hu (List.mem_cons_of_mem _ ?_)).1
  simp [hl]

set_option maxRecDepth 100000 in
set_option maxHeartbeats 8000000 in
theorem turns_six {x y z : Int} {p q r : Bool} (w : World) (hm : mayT (x, y, z, p, q, r, true)) :
    Calls Tryd.prog 25 #[V7 x y z p q r true] w fun e W' => ∃ v, e = .returned v ∧ Wl W' w.heap.size v (turnsT (x, y, z, p, q, r, true)) ∧ Below w.heap.size w W' := by
  have hmx : Tryd.prog.follows .mixedOrders = true := by kernel_rfl
  have HE : Hid (turnsT (x, y, z, p, q, r, true) = foldT (x, y, z, p, q, r, true) 5) := rfl
  obtain ⟨uu, huu⟩ : ∃ uu : Wt, uu = (x, y, z, p, q, r, true) := ⟨_, rfl⟩
  have HU : Hid (uu = (x, y, z, p, q, r, true)) := huu
  have HM : Hid (mayT uu) := by rw [huu]; exact hm
  generalize turnsT (x, y, z, p, q, r, true) = tgt at HE ⊢
  rw [← huu] at HE
  clear hm huu
  obtain ⟨W, hW, hBW, b0, b1⟩ := two_start w (cells7 x y z p q r true) (cells7 x y z p q r true) 29 29
  have hO := Wl.one (w.alloc (.cells (cells7 x y z p q r true) 29)) w.heap.size (by simp) x y z p q r true
  have e1 : (w.alloc (.cells (cells7 x y z p q r true) 29)).heap.size = w.heap.size + 1 := by simp
  rw [e1, hW] at hO
  have HO : Hid (Wl W w.heap.size (.slice (some ⟨w.heap.size + 1, 0, none⟩) 1 1) [(x, y, z, p, q, r, true)]) := hO
  clear e1 hO
  obtain ⟨s0, s1, s2, s3, s4, s5, s6⟩ := b0.seven
  go_enter Tryd.func25, Tryd.ntmps25
  go_wp2
  clear hW s0 s1 s2 s3 s4 s5 s6
  refine wp_region_loud2 (w0 := W) (wordT x y z p q r w.heap.size) hmx (by kernel_rfl) (wordT_later _ _ _ _ _ _ _) ?_ ?_
  · intro i o hi a w' hT hL hpre
    have t1 : a.tmps.getD 1 undef = .pointer (some ⟨w.heap.size, 0, none⟩) := by
      rw [Array.getD_eq_getD_getElem?, hL.out 1 (of_decide_eq_true (by kernel_rfl))]; rfl
    obtain ⟨c0, c1, c2, c3, c4, c5, c6⟩ := (b0.later hT).seven
    clear hL
    match i, hi with
    | 0, hi =>
      obtain rfl := Option.some.inj hi
      refine .inl ⟨V7 x y z p q r true, w', ?_, Below.refl _ _, rfl⟩
      simp [execOp, go_sem, Act.eval, t1, c0, c1, c2, c3, c4, c5, c6]
    | 1, hi =>
      obtain rfl := Option.some.inj hi
      have p0 : a.tmps.getD 12 undef = V7 x y z p q r true := hpre ⟨0, .data⟩ (by simp) rfl
      refine .inr ⟨34, #[V7 x y z p q r true, I 0, I 1], ?_, ?_⟩
      · simp [go_sem, Act.eval, p0]
      · refine (swapped_01 _ _ _ _ _ _ _ w').mono ?_
        rintro e w'' ⟨rfl, hB⟩
        exact ⟨_, rfl, hB, rfl⟩
    | 2, hi =>
      obtain rfl := Option.some.inj hi
      refine .inl ⟨V7 x y z p q r true, w', ?_, Below.refl _ _, rfl⟩
      simp [execOp, go_sem, Act.eval, t1, c0, c1, c2, c3, c4, c5, c6]
    | 3, hi =>
      obtain rfl := Option.some.inj hi
      have p0 : a.tmps.getD 14 undef = V7 x y z p q r true := hpre ⟨2, .data⟩ (by simp) rfl
      refine .inr ⟨34, #[V7 x y z p q r true, I 0, I 2], ?_, ?_⟩
      · simp [go_sem, Act.eval, p0]
      · refine (swapped_02 _ _ _ _ _ _ _ w').mono ?_
        rintro e w'' ⟨rfl, hB⟩
        exact ⟨_, rfl, hB, rfl⟩
    | 4, hi =>
      obtain rfl := Option.some.inj hi
      refine .inl ⟨V7 x y z p q r true, w', ?_, Below.refl _ _, rfl⟩
      simp [execOp, go_sem, Act.eval, t1, c0, c1, c2, c3, c4, c5, c6]
    | 5, hi =>
      obtain rfl := Option.some.inj hi
      have p0 : a.tmps.getD 16 undef = V7 x y z p q r true := hpre ⟨4, .data⟩ (by simp) rfl
      refine .inr ⟨34, #[V7 x y z p q r true, I 1, I 2], ?_, ?_⟩
      · simp [go_sem, Act.eval, p0]
      · refine (swapped_12 _ _ _ _ _ _ _ w').mono ?_
        rintro e w'' ⟨rfl, hB⟩
        exact ⟨_, rfl, hB, rfl⟩
    | 6, hi =>
      obtain rfl := Option.some.inj hi
      refine .inl ⟨V7 x y z p q r true, w', ?_, Below.refl _ _, rfl⟩
      simp [execOp, go_sem, Act.eval, t1, c0, c1, c2, c3, c4, c5, c6]
    | 7, hi =>
      obtain rfl := Option.some.inj hi
      have p0 : a.tmps.getD 18 undef = V7 x y z p q r true := hpre ⟨6, .data⟩ (by simp) rfl
      refine .inr ⟨34, #[V7 x y z p q r true, I 0, I 1], ?_, ?_⟩
      · simp [go_sem, Act.eval, p0]
      · refine (swapped_01 _ _ _ _ _ _ _ w').mono ?_
        rintro e w'' ⟨rfl, hB⟩
        exact ⟨_, rfl, hB, rfl⟩
    | 8, hi =>
      obtain rfl := Option.some.inj hi
      have p0 : a.tmps.getD 19 undef = V7 y x z q p r true := hpre ⟨7, .data⟩ (by simp) rfl
      refine .inr ⟨34, #[V7 y x z q p r true, I 1, I 2], ?_, ?_⟩
      · simp [go_sem, Act.eval, p0]
      · refine (swapped_12 _ _ _ _ _ _ _ w').mono ?_
        rintro e w'' ⟨rfl, hB⟩
        exact ⟨_, rfl, hB, rfl⟩
    | 9, hi =>
      obtain rfl := Option.some.inj hi
      refine .inl ⟨V7 x y z p q r true, w', ?_, Below.refl _ _, rfl⟩
      simp [execOp, go_sem, Act.eval, t1, c0, c1, c2, c3, c4, c5, c6]
    | 10, hi =>
      obtain rfl := Option.some.inj hi
      have p0 : a.tmps.getD 21 undef = V7 x y z p q r true := hpre ⟨9, .data⟩ (by simp) rfl
      refine .inr ⟨34, #[V7 x y z p q r true, I 0, I 1], ?_, ?_⟩
      · simp [go_sem, Act.eval, p0]
      · refine (swapped_01 _ _ _ _ _ _ _ w').mono ?_
        rintro e w'' ⟨rfl, hB⟩
        exact ⟨_, rfl, hB, rfl⟩
    | 11, hi =>
      obtain rfl := Option.some.inj hi
      have p0 : a.tmps.getD 22 undef = V7 y x z q p r true := hpre ⟨10, .data⟩ (by simp) rfl
      refine .inr ⟨34, #[V7 y x z q p r true, I 0, I 2], ?_, ?_⟩
      · simp [go_sem, Act.eval, p0]
      · refine (swapped_02 _ _ _ _ _ _ _ w').mono ?_
        rintro e w'' ⟨rfl, hB⟩
        exact ⟨_, rfl, hB, rfl⟩
    | 12, hi =>
      obtain rfl := Option.some.inj hi
      have p1 : a.tmps.getD 13 undef = V7 y x z q p r true := hpre ⟨1, .data⟩ (by simp) rfl
      have p3 : a.tmps.getD 15 undef = V7 z y x r q p true := hpre ⟨3, .data⟩ (by simp) rfl
      have p5 : a.tmps.getD 17 undef = V7 x z y p r q true := hpre ⟨5, .data⟩ (by simp) rfl
      have p8 : a.tmps.getD 20 undef = V7 y z x q r p true := hpre ⟨8, .data⟩ (by simp) rfl
      have p11 : a.tmps.getD 23 undef = V7 z x y r p q true := hpre ⟨11, .data⟩ (by simp) rfl
      refine .inl ⟨.slice (some ⟨w'.heap.size, 0, none⟩) 5 5, w'.alloc (.cells (flatW (others (x, y, z, p, q, r, true))).toArray 29), ?_, (Below.refl _ _).alloc (Nat.le_refl _) _, _, rfl, Wl.laid w' _ (Nat.le_trans hBW.size hT.size) _ (by simp [others])⟩
      rw [Array.getD_eq_getD_getElem?] at p1 p3 p5 p8 p11
      simp [execOp, go_sem, Act.eval, p1, p3, p5, p8, p11, flatW, others, s01, s02, s12, cellsW]
    | 13, hi =>
      obtain rfl := Option.some.inj hi
      obtain ⟨g, p12, _⟩ : ∃ g, a.tmps.getD 24 undef = .slice (some ⟨g, 0, none⟩) 5 5 ∧ _ := hpre ⟨12, .data⟩ (by simp) rfl
      refine .inl ⟨I 5, w', ?_, Below.refl _ _, rfl⟩
      simp [go_sem, Act.eval, p12]
    | 14, hi =>
      obtain rfl := Option.some.inj hi
      refine .inl ⟨I 0, w', ?_, Below.refl _ _, rfl⟩
      simp [execOp, go_sem, Act.eval]
    | n + 15, hi => simp at hi
  · intro v w2 hT hw
    obtain ⟨g, e12, hLs⟩ : wordT x y z p q r w.heap.size 12 (v 12) w2 := hw 12 (by decide)
    have e13 : v 13 = I 5 := hw 13 (by decide)
    have e14 : v 14 = I 0 := hw 14 (by decide)
    rw [e12] at hLs
    have HLs : Hid (Wl w2 w.heap.size (.slice (some ⟨g, 0, none⟩) 5 5) (others uu)) := by rw [HU.out]; exact hLs
    have HO2 : Hid (Wl w2 w.heap.size (.slice (some ⟨w.heap.size + 1, 0, none⟩) 1 1) (foldT uu 0)) := by rw [HU.out]; exact HO.out.later hT
    have HB2 : Hid (Below w.heap.size w w2) := then_below hBW hT
    clear hLs HO hw hT hBW b0 b1
    simp only [List.length_cons, List.length_nil, Nat.zero_add, Nat.reduceAdd, List.range, List.range.loop, List.foldl_cons, List.foldl_nil, dstOf, List.getElem?_cons_zero, List.getElem?_cons_succ, Option.getD_some, Act.put, e12, e13, e14]
    clear e12 e13 e14
    generalize v 0 = v0
    generalize v 1 = v1
    generalize v 2 = v2
    generalize v 3 = v3
    generalize v 4 = v4
    generalize v 5 = v5
    generalize v 6 = v6
    generalize v 7 = v7
    generalize v 8 = v8
    generalize v 9 = v9
    generalize v 10 = v10
    generalize v 11 = v11
    go_wp2
    simp only [List.setIfInBounds_toArray, List.set_cons_succ, List.set_cons_zero]
    go_loopw [3, 26] (fun vl i wr => ∃ k : Nat, k ≤ 5 ∧ i = .int .i64 k ∧ Wl wr w.heap.size vl (foldT uu k) ∧ Below w2.heap.size w2 wr) (fun _ i _ => 5 - (intOf i).toNat)
    case atStart => exact ⟨0, by omega, rfl, HO2.out, Below.refl _ _⟩
    case round =>
      obtain ⟨k, hk, rfl, hL, hT⟩ := hrel
      by_cases hlt : (k : Int) < 5
      · have hk' : k < 5 := by omega
        obtain ⟨g', x1, y1, z1, p1, q1, r1, t1, hg, hu, hat⟩ := Wl.at (HLs.out.later hT) (show k < (others uu).length from hk')
        have hg' : g' = g := by
          simp only [Option.some.injEq, Addr.mk.injEq, and_true] at hg
          exact hg.symm
        subst hg'
        obtain ⟨c0, c1, c2, c3, c4, c5, c6⟩ := hat.cells
        have hgl := hat.lt
        have HP : Hid (∀ (w' : World) (vl : Value), Wl w' w.heap.size vl (foldT uu k) → w.heap.size ≤ w'.heap.size → Calls Tryd.prog 35 #[vl, V7 x1 y1 z1 p1 q1 r1 t1] w' fun e W' => ∃ v, e = .returned v ∧ Wl W' w.heap.size v (foldT uu (k + 1)) ∧ Below w'.heap.size w' W') := by
          intro w' vl h h'
          rw [fold_next uu hk', hu]
          exact put_calls w' h h' (by have := fold_len uu k hk; omega) (fold_may HM.out k) (by rw [← hu]; exact others_may HM.out hk')
        clear hg hu hat
        have hT' := then_alloc hT (.cells (cells7 x1 y1 z1 p1 q1 r1 t1) 29)
        have hL' := Wl.later hL ((Below.refl _ wr).alloc (Nat.le_refl _) (.cells (cells7 x1 y1 z1 p1 q1 r1 t1) 29))
        have hz := Nat.le_trans HB2.out.size hT'.size
        go_wp2_with (go_at_call 35; refine (HP.out _ _ hL' hz).mono ?_; rintro e w4 ⟨v4, rfl, hL4, hB4⟩)
        go_roundw
        case rel => exact ⟨k + 1, by omega, by go_num, hL4, then_below hT' hB4⟩
        case measure => simp [intOf]; omega
      · obtain rfl : k = 5 := by omega
        rw [← HE.out] at hL
        have hB := then_below HB2.out hT
        go_wp2
        go_ret
        exact ⟨_, rfl, hL, hB⟩

end Go.Proofs.YtanhhlekbdhfmaaDoor

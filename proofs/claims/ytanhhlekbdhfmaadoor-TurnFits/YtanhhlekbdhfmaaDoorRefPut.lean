/-
  The document's put: a rising list with one more, if it is not there.
-/
import Derived.Test.YtanhhlekbdhfmaaDoorRefTurn
import Derived.Test.YtanhhlekbdhfmaaDoorTurnFitsOf
namespace Go.Proofs.YtanhhlekbdhfmaaDoor
open Go Go.RowKit Go.Shelf

attribute [local go_sem] Oper.semAt_some ext_const eq_ints_at eq_bools_at
attribute [local go_sem high] eq_wants

def stepP (u : Wt) (s : List Wt × Bool) (x : Wt) : List Wt × Bool := if !s.2 && lessT u x then (s.1 ++ [u] ++ [x], true) else (s.1 ++ [x], s.2)
def stP (u : Wt) (xs : List Wt) : List Wt × Bool := xs.foldl (stepP u) ([], false)
def finP (u : Wt) (s : List Wt × Bool) : List Wt := if s.2 then s.1 else s.1 ++ [u]
theorem stP_snoc (u : Wt) (xs : List Wt) (x : Wt) : stP u (xs ++ [x]) = stepP u (stP u xs) x := by simp [stP]
theorem fold_done (u : Wt) : ∀ (xs out : List Wt), xs.foldl (stepP u) (out, true) = (out ++ xs, true)
  | [], out => by simp
  | x :: xs, out => by
    rw [List.foldl_cons, show stepP u (out, true) x = (out ++ [x], true) from rfl, fold_done u xs]
    simp
theorem fold_fin {u : Wt} (hu : mayT u) : ∀ (xs out : List Wt), (∀ x ∈ xs, mayT x) → finP u (xs.foldl (stepP u) (out, false)) = out ++ insT u xs
  | [], out, _ => by simp [finP, insT]
  | x :: xs, out, h => by
    have hl := less_key hu (h x (by simp))
    rw [List.foldl_cons]
    unfold insT
    by_cases hk : keyT u < keyT x
    · rw [if_pos hk]
      have : stepP u (out, false) x = (out ++ [u] ++ [x], true) := by simp [stepP, hl, hk]
      rw [this, fold_done]
      simp [finP]
    · rw [if_neg hk]
      have : stepP u (out, false) x = (out ++ [x], false) := by simp [stepP, hl, hk]
      rw [this, fold_fin hu xs _ (fun y hy => h y (by simp [hy]))]
      simp
theorem fin_put {u : Wt} {l : List Wt} (hu : mayT u) (hl : ∀ x ∈ l, mayT x) (hn : u ∉ l) : finP u (stP u l) = putT l u := by
  unfold putT
  rw [if_neg hn]
  exact (fold_fin hu l [] hl).trans (by simp)
theorem stP_len (u : Wt) : ∀ (xs : List Wt) (s : List Wt × Bool), (xs.foldl (stepP u) s).1.length ≤ s.1.length + 2 * xs.length
  | [], s => by simp
  | x :: xs, s => by
    have h := stP_len u xs (stepP u s x)
    have : (stepP u s x).1.length ≤ s.1.length + 2 := by unfold stepP; split <;> simp
    rw [List.foldl_cons]
    simp only [List.length_cons]
    omega

theorem At7.ext {W : World} {g n : Nat} {x y z : Int} {p q r t : Bool} (h : At7 W g n (x, y, z, p, q, r, t)) :
    (∀ X : Ext W, X.wd.cell? ⟨g, n, none⟩ = some (.int .i64 x)) ∧ (∀ X : Ext W, X.wd.cell? ⟨g, n + 1, none⟩ = some (.int .i64 y)) ∧ (∀ X : Ext W, X.wd.cell? ⟨g, n + 2, none⟩ = some (.int .i64 z)) ∧
    (∀ X : Ext W, X.wd.cell? ⟨g, n + 3, none⟩ = some (.bool p)) ∧ (∀ X : Ext W, X.wd.cell? ⟨g, n + 4, none⟩ = some (.bool q)) ∧ (∀ X : Ext W, X.wd.cell? ⟨g, n + 5, none⟩ = some (.bool r)) ∧ (∀ X : Ext W, X.wd.cell? ⟨g, n + 6, none⟩ = some (.bool t)) :=
  ⟨fun X => (h.later X.le).cells.1, fun X => (h.later X.le).cells.2.1, fun X => (h.later X.le).cells.2.2.1, fun X => (h.later X.le).cells.2.2.2.1, fun X => (h.later X.le).cells.2.2.2.2.1, fun X => (h.later X.le).cells.2.2.2.2.2.1, fun X => (h.later X.le).cells.2.2.2.2.2.2⟩
theorem Blk.ext7 {W : World} {B : Nat} {t : TypeId} {c0 c1 c2 c3 c4 c5 c6 : Value} (h : Blk W B t #[c0, c1, c2, c3, c4, c5, c6]) :
    (∀ X : Ext W, X.wd.cell? ⟨B, 0, none⟩ = some c0) ∧ (∀ X : Ext W, X.wd.cell? ⟨B, 1, none⟩ = some c1) ∧ (∀ X : Ext W, X.wd.cell? ⟨B, 2, none⟩ = some c2) ∧
    (∀ X : Ext W, X.wd.cell? ⟨B, 3, none⟩ = some c3) ∧ (∀ X : Ext W, X.wd.cell? ⟨B, 4, none⟩ = some c4) ∧ (∀ X : Ext W, X.wd.cell? ⟨B, 5, none⟩ = some c5) ∧ (∀ X : Ext W, X.wd.cell? ⟨B, 6, none⟩ = some c6) :=
  ⟨fun X => (h.later X.le).seven.1, fun X => (h.later X.le).seven.2.1, fun X => (h.later X.le).seven.2.2.1, fun X => (h.later X.le).seven.2.2.2.1, fun X => (h.later X.le).seven.2.2.2.2.1, fun X => (h.later X.le).seven.2.2.2.2.2.1, fun X => (h.later X.le).seven.2.2.2.2.2.2⟩

theorem wpList_appB {ops : Array Oper} {rest : List Oper} {o : Oper} {a : Act} {Q : Exit → Act → World → Prop} {W : World} {base : Nat} {v : Value} {xs : List Wt} {x y z : Int} {p q r t : Bool} (hgd : o.guard = none) (s u : Operand)
    (ho : o.op = .call { callee := .builtin .append, args := #[s, u], argTypes := #[22, 22] }) (hs : a.eval s = v) (hx : a.eval u = .slice (some ⟨W.heap.size, 0, none⟩) 1 1)
    (hown : Wl W base v xs) (hl : xs.length ≤ 100000) (hb : base ≤ W.heap.size)
    (h : ∀ v' w', Wl w' base v' (xs ++ [(x, y, z, p, q, r, t)]) → Below base W w' → wpList Tryd.prog ops Q rest (a.put o.dst v') w') : wpList Tryd.prog ops Q (o :: rest) a (W.alloc (.cells (cells7 x y z p q r t) 29)) :=
  wpList_appW hgd s u ho hs hx hown hl hb fun v' w' hW hG _ => h v' w' hW ((Below.refl base W).grown hG hb (fun k hk => (World.ownsRow.lt hown k hk).1))

theorem At7.below {W W' : World} {g n m : Nat} {u : Wt} (h : At7 W g n u) (hb : Below m W W') (hg : g < m) : At7 W' g n u := by
  obtain ⟨cur, h1, h2⟩ := h
  exact ⟨cur, h1.below hb hg, h2⟩

/-- What holds at each round's head. -/
structure Pd (w : World) (u : Wt) (cs : Array Value) (l : List Wt) (k : Nat) (v : Value) (d : Bool) (out : List Wt) (wr : World) : Prop where
  st : stP u (l.take k) = (out, d)
  not : u ∉ l.take k
  lst : Wl wr (w.heap.size + 1) v out
  box : Blk wr w.heap.size 29 cs
  below : Below w.heap.size w wr
  size : w.heap.size + 1 ≤ wr.heap.size

section
variable {w : World} {u : Wt} {cs : Array Value} {l : List Wt} {k : Nat} {v : Value} {d : Bool} {out : List Wt} {wr w1 : World}
theorem Pd.later (P : Pd w u cs l k v d out wr) (h : Below wr.heap.size wr w1) : Pd w u cs l k v d out w1 :=
  ⟨P.st, P.not, P.lst.later h, P.box.later h, then_below P.below h, Nat.le_trans P.size h.size⟩
theorem Pd.few' (P : Pd w u cs l k v d out wr) (hl : l.length ≤ 100) : out.length ≤ 1000 := by
  have h := stP_len u (l.take k) ([], false)
  have e := P.st
  unfold stP at e
  rw [e] at h
  have h2 : (l.take k).length ≤ l.length := by rw [List.length_take]; omega
  simp at h
  omega
theorem Pd.next (P : Pd w u cs l k v d out wr) {x : Wt} {out' : List Wt} {d' : Bool} {v' : Value} (hk : k < l.length) (hx : l.getD k default = x) (hne : eqW x u = false) (hs : stepP u (out, d) x = (out', d')) (hW : Wl w1 (w.heap.size + 1) v' out') (hB : Below (w.heap.size + 1) wr w1) :
    Pd w u cs l (k + 1) v' d' out' w1 := by
  have e : l.take (k + 1) = l.take k ++ [x] := by
    rw [List.take_succ_eq_append_getElem hk, ← hx]
    simp [hk]
  have hne' : x ≠ u := by simpa [eqW] using hne
  refine ⟨by rw [e, stP_snoc, P.st, hs], ?_, hW, P.box.below hB (by omega), P.below.trans (hB.mono (by omega)), Nat.le_trans P.size hB.size⟩
  rw [e, List.mem_append, List.mem_singleton]
  rintro (h | h)
  · exact P.not h
  · exact hne' h.symm
end

set_option maxRecDepth 100000 in
set_option maxHeartbeats 8000000 in
theorem put_calls {l : List Wt} {vl : Value} {base : Nat} {x y z : Int} {p q r t : Bool} (w : World) (hL : Wl w base vl l) (hb : base ≤ w.heap.size) (hn : l.length ≤ 100) (hl : ∀ u ∈ l, mayT u) (hm : mayT (x, y, z, p, q, r, t)) :
    Calls Tryd.prog 35 #[vl, V7 x y z p q r t] w fun e W' => ∃ v, e = .returned v ∧ Wl W' base v (putT l (x, y, z, p, q, r, t)) ∧ Below w.heap.size w W' := by
  have hmx : Tryd.prog.follows .mixedOrders = true := by kernel_rfl
  obtain ⟨ao, cap, rfl, _⟩ := hL.view
  have hls := fun x1 y1 z1 p1 q1 r1 t1 w => wless_calls x y z p q r t x1 y1 z1 p1 q1 r1 t1 w
  obtain ⟨uu, huu⟩ : ∃ uu : Wt, uu = (x, y, z, p, q, r, t) := ⟨_, rfl⟩
  have HU : Hid (uu = (x, y, z, p, q, r, t)) := huu
  have HF : Hid (uu ∉ l → finP uu (stP uu l) = putT l uu) := fun h => fin_put (by rw [huu]; exact hm) hl h
  have HI : Hid (uu ∈ l → putT l uu = l) := fun h => by show putT l uu = l; unfold putT; rw [if_pos h]
  have HL : Hid (Wl w base (.slice ao l.length cap) l) := hL
  rw [← huu]
  generalize putT l uu = tgt at HF HI ⊢
  clear huu hL hl hm
  go_enter Tryd.func35, Tryd.ntmps35
  go_wp2
  go_loopw [5, 6, 7] (fun v dn i wr => ∃ (k : Nat) (d : Bool) (out : List Wt), k ≤ l.length ∧ i = .int .i64 k ∧ dn = .bool d ∧ Pd w uu (cells7 x y z p q r t) l k v d out wr) (fun _ _ i _ => l.length - (intOf i).toNat)
  case atStart => exact ⟨0, false, [], by omega, rfl, rfl, by simp [stP], by simp, Wl.nil _ _, Blk.new _ _ _, (Below.refl _ w).alloc (Nat.le_refl _) _, by simp⟩
  case round =>
    obtain ⟨k, d, out, hk, rfl, rfl, P⟩ := hrel
    have hfew : out.length ≤ 100000 := Nat.le_trans (P.few' hn) (by omega)
    by_cases hlt : (k : Int) < (l.length : Int)
    · have hk' : k < l.length := by omega
      obtain ⟨g0, x1, y1, z1, p1, q1, r1, t1, rfl, hu, hat0⟩ := Wl.at HL.out hk'
      have hg0 := hat0.lt
      have hat := hat0.below P.below hg0
      have HU1 : Hid (l.getD k default = (x1, y1, z1, p1, q1, r1, t1)) := hu
      have hls1 := hls x1 y1 z1 p1 q1 r1 t1
      clear hu hat0 hls
      obtain ⟨e0, e1, e2, e3, e4, e5, e6⟩ := hat.ext
      obtain ⟨b0, b1, b2, b3, b4, b5, b6⟩ := P.box.ext7
      cases hq : eqW (x1, y1, z1, p1, q1, r1, t1) (x, y, z, p, q, r, t)
      · have HQ : Hid (eqW (x1, y1, z1, p1, q1, r1, t1) uu = false) := by show _ = _; rw [HU.out]; exact hq
        have hfew' : out.length ≤ 1000 := P.few' hn
        cases d
        · cases hlt1 : lessT (x, y, z, p, q, r, t) (x1, y1, z1, p1, q1, r1, t1)
          · rw [hlt1] at hls1
            have HS : Hid (stepP uu (out, false) (x1, y1, z1, p1, q1, r1, t1) = (out ++ [(x1, y1, z1, p1, q1, r1, t1)], false)) := by show _ = _; rw [HU.out]; simp [stepP, hlt1]
            clear hlt1
            go_wp2
            refine wp_region_look hmx (by kernel_rfl) ?_
            repeat (go_big_quiet_step (fail))
            refine wpQuiet_nil ?_
            intro X
            have P1 := P.later X.le
            have hat1 := hat.later X.le
            clear e0 e1 e2 e3 e4 e5 e6 b0 b1 b2 b3 b4 b5 b6 hat P
            generalize X.wd = w1 at P1 hat1 ⊢
            go_wp2
            obtain ⟨e0, e1, e2, e3, e4, e5, e6⟩ := hat1.ext
            obtain ⟨b0, b1, b2, b3, b4, b5, b6⟩ := P1.box.ext7
            refine wp_region_look hmx (by kernel_rfl) ?_
            repeat (go_big_quiet_step ((go_at_call 48; exact calls_ext (hls1 _))))
            refine wpQuiet_nil ?_
            intro Y
            have P2 := P1.later Y.le
            have hat2 := hat1.later Y.le
            clear e0 e1 e2 e3 e4 e5 e6 b0 b1 b2 b3 b4 b5 b6 hat1 P1
            generalize Y.wd = w2 at P2 hat2 ⊢
            obtain ⟨e0, e1, e2, e3, e4, e5, e6⟩ := hat2.cells
            obtain ⟨b0, b1, b2, b3, b4, b5, b6⟩ := P2.box.seven
            have hz := P2.size
            have hgl := hat2.lt
            go_wp2_with (first
              | (at_builtin; refine wpList_appB (base := w.heap.size + 1) (xs := out) rfl _ _ rfl rfl rfl P2.lst hfew hz ?_; intro v3 w3 hW3 hB3)
              | go_in)
            go_roundw
            case rel => exact ⟨k + 1, false, _, by omega, by go_num, rfl, P2.next hk' HU1.out HQ.out HS.out hW3 hB3⟩
            case measure => simp [intOf]; omega
          · rw [hlt1] at hls1
            have HS : Hid (stepP uu (out, false) (x1, y1, z1, p1, q1, r1, t1) = (out ++ [(x, y, z, p, q, r, t)] ++ [(x1, y1, z1, p1, q1, r1, t1)], true)) := by show _ = _; rw [HU.out]; simp [stepP, hlt1]
            clear hlt1
            go_wp2
            refine wp_region_look hmx (by kernel_rfl) ?_
            repeat (go_big_quiet_step (fail))
            refine wpQuiet_nil ?_
            intro X
            have P1 := P.later X.le
            have hat1 := hat.later X.le
            clear e0 e1 e2 e3 e4 e5 e6 b0 b1 b2 b3 b4 b5 b6 hat P
            generalize X.wd = w1 at P1 hat1 ⊢
            go_wp2
            obtain ⟨e0, e1, e2, e3, e4, e5, e6⟩ := hat1.ext
            obtain ⟨b0, b1, b2, b3, b4, b5, b6⟩ := P1.box.ext7
            refine wp_region_look hmx (by kernel_rfl) ?_
            repeat (go_big_quiet_step ((go_at_call 48; exact calls_ext (hls1 _))))
            refine wpQuiet_nil ?_
            intro Y
            have P2 := P1.later Y.le
            have hat2 := hat1.later Y.le
            clear e0 e1 e2 e3 e4 e5 e6 b0 b1 b2 b3 b4 b5 b6 hat1 P1
            generalize Y.wd = w2 at P2 hat2 ⊢
            obtain ⟨e0, e1, e2, e3, e4, e5, e6⟩ := hat2.cells
            obtain ⟨b0, b1, b2, b3, b4, b5, b6⟩ := P2.box.seven
            have hz := P2.size
            have hgl := hat2.lt
            go_wp2_with (first
              | (at_builtin; refine wpList_appB (base := w.heap.size + 1) (xs := out ++ [(x, y, z, p, q, r, t)]) rfl _ _ rfl rfl rfl hW3 hl3 hz3 ?_; intro v4 w4 hW4 hB4)
              | (at_builtin; refine wpList_appB (base := w.heap.size + 1) (xs := out) rfl _ _ rfl rfl rfl P2.lst hfew hz ?_; intro v3 w3 hW3 hB3
                 obtain ⟨h0, h1, h2, h3, h4, h5, h6⟩ := (hat2.below hB3 (Nat.lt_succ_of_lt hg0)).cells
                 have hz3 := Nat.le_trans hz hB3.size
                 have hl3 : (out ++ [(x, y, z, p, q, r, t)]).length ≤ 100000 := by simp; omega)
              | go_in)
            go_roundw
            case rel => exact ⟨k + 1, true, _, by omega, by go_num, rfl, P2.next hk' HU1.out HQ.out HS.out hW4 (hB3.trans hB4)⟩
            case measure => simp [intOf]; omega
        · have HS : Hid (stepP uu (out, true) (x1, y1, z1, p1, q1, r1, t1) = (out ++ [(x1, y1, z1, p1, q1, r1, t1)], true)) := rfl
          go_wp2
          refine wp_region_look hmx (by kernel_rfl) ?_
          repeat (go_big_quiet_step (fail))
          refine wpQuiet_nil ?_
          intro X
          have P1 := P.later X.le
          have hat1 := hat.later X.le
          clear e0 e1 e2 e3 e4 e5 e6 b0 b1 b2 b3 b4 b5 b6 hat P
          generalize X.wd = w1 at P1 hat1 ⊢
          go_wp2
          obtain ⟨e0, e1, e2, e3, e4, e5, e6⟩ := hat1.ext
          obtain ⟨b0, b1, b2, b3, b4, b5, b6⟩ := P1.box.ext7
          refine wp_region_look hmx (by kernel_rfl) ?_
          repeat (go_big_quiet_step ((go_at_call 48; exact calls_ext (hls1 _))))
          refine wpQuiet_nil ?_
          intro Y
          have P2 := P1.later Y.le
          have hat2 := hat1.later Y.le
          clear e0 e1 e2 e3 e4 e5 e6 b0 b1 b2 b3 b4 b5 b6 hat1 P1
          generalize Y.wd = w2 at P2 hat2 ⊢
          obtain ⟨e0, e1, e2, e3, e4, e5, e6⟩ := hat2.cells
          obtain ⟨b0, b1, b2, b3, b4, b5, b6⟩ := P2.box.seven
          have hz := P2.size
          have hgl := hat2.lt
          go_wp2_with (first
            | (at_builtin; refine wpList_appB (base := w.heap.size + 1) (xs := out) rfl _ _ rfl rfl rfl P2.lst hfew hz ?_; intro v3 w3 hW3 hB3)
            | go_in)
          go_roundw
          case rel => exact ⟨k + 1, true, _, by omega, by go_num, rfl, P2.next hk' HU1.out HQ.out HS.out hW3 hB3⟩
          case measure => simp [intOf]; omega
      · have hin : uu ∈ l := by
          have : (x1, y1, z1, p1, q1, r1, t1) = (x, y, z, p, q, r, t) := by simpa [eqW] using hq
          rw [HU.out, ← this, ← HU1.out]
          simp [hk']
        obtain rfl := HI.out hin
        clear hin HF
        have hB := P.below
        go_wp2
        refine wp_region_look hmx (by kernel_rfl) ?_
        repeat (go_big_quiet_step (fail))
        refine wpQuiet_nil ?_
        intro X
        go_wp2
        go_ret
        exact ⟨_, rfl, (HL.out.later (then_below hB X.le)), then_below hB X.le⟩
    · obtain rfl : k = l.length := by omega
      have hst := P.st
      have hnot := P.not
      rw [List.take_length] at hst hnot
      have hF := HF.out hnot
      rw [hst] at hF
      clear hst hnot HI HF
      cases d
      · have hF' : out ++ [uu] = tgt := hF
        obtain ⟨b0, b1, b2, b3, b4, b5, b6⟩ := P.box.seven
        have hz := P.size
        have HF2 : Hid (out ++ [(x, y, z, p, q, r, t)] = tgt) := by show _ = _; rw [← HU.out]; exact hF'
        clear hF hF'
        go_wp2_with (first
          | (at_builtin; refine wpList_appB (base := w.heap.size + 1) (xs := out) rfl _ _ rfl rfl rfl P.lst hfew hz ?_; intro v3 w3 hW3 hB3)
          | go_in)
        go_ret
        exact ⟨_, rfl, HF2.out ▸ hW3.weak (by omega), P.below.trans (hB3.mono (by omega))⟩
      · have hF' : out = tgt := hF
        subst hF'
        clear hF
        have hW := P.lst.weak (show base ≤ w.heap.size + 1 by omega)
        have hB := P.below
        go_wp2
        go_ret
        exact ⟨_, rfl, hW, hB⟩

end Go.Proofs.YtanhhlekbdhfmaaDoor

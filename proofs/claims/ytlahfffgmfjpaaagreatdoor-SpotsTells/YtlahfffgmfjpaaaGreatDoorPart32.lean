/-
  The document's put: a rising list with one more, if it is not there.
-/
import Derived.Test.YtlahfffgmfjpaaaGreatDoorPart31
import Derived.Test.YtlahfffgmfjpaaaGreatDoorPart27
import Derived.Test.YtlahfffgmfjpaaaGreatDoorPart10
namespace Go.Proofs.YtlahfffgmfjpaaaGreatDoor
open Go Go.RowKit Go.Shelf

attribute [local go_sem] Oper.semAt_some ext_const eq_ints_at eq_bools_at
attribute [local go_sem high] eq_wants

def stepP (u : Wt) (s : List Wt × Bool) (x : Wt) : List Wt × Bool := if !s.2 && lessT u x then (s.1 ++ [u] ++ [x], true) else (s.1 ++ [x], s.2)
def stP (u : Wt) (xs : List Wt) : List Wt × Bool := xs.foldl (stepP u) ([], false)
def finP (u : Wt) (s : List Wt × Bool) : List Wt := if s.2 then s.1 else s.1 ++ [u]
theorem stP_snoc (u : Wt) (xs : List Wt) (x : Wt) : stP u (xs ++ [x]) = stepP u (stP u xs) x := by simp [stP]
theorem fold_done (u : Wt) : ∀ (xs out : List Wt), xs.foldl (stepP u) (out, true) = (out ++ xs, true)
  | [], out => by simp
  | x :: xs, out => by
    rw [List.foldl_cons, show stepP u (out, true) x = (out ++ [x], true) from rfl, fold_done u xs]
    simp
theorem fold_fin {u : Wt} (hu : mayT u) : ∀ (xs out : List Wt), (∀ x ∈ xs, mayT x) → finP u (xs.foldl (stepP u) (out, false)) = out ++ insT u xs
  | [], out, _ => by simp [finP, insT]
  | x :: xs, out, h => by
    have hl := less_key hu (h x (by simp))
    rw [List.foldl_cons]
    unfold insT
    by_cases hk : keyT u < keyT x
    · rw [if_pos hk]
      have : stepP u (out, false) x = (out ++ [u] ++ [x], true) := by simp [stepP, hl, hk]
      rw [this, fold_done]
      simp [finP]
    · rw [if_neg hk]
      have : stepP u (out, false) x = (out ++ [x], false) := by simp [stepP, hl, hk]
      rw [this, fold_fin hu xs _ (fun y hy => h y (by simp [hy]))]
      simp
theorem fin_put {u : Wt} {l : List Wt} (hu : mayT u) (hl : ∀ x ∈ l, mayT x) (hn : u ∉ l) : finP u (stP u l) = putT l u := by
  unfold putT
  rw [if_neg hn]
  exact (fold_fin hu l [] hl).trans (by simp)
theorem stP_len (u : Wt) : ∀ (xs : List Wt) (s : List Wt × Bool), (xs.foldl (stepP u) s).1.length ≤ s.1.length + 2 * xs.length
  | [], s => by simp
  | x :: xs, s => by
    have h := stP_len u xs (stepP u s x)
    have : (stepP u s x).1.length ≤ s.1.length + 2 := by unfold stepP; split <;> simp
    rw [List.foldl_cons]
    simp only [List.length_cons]
    omega

theorem At7.ext {W : World} {g n : Nat} {x y z : Int} {p q r t : Bool} (h : At7 W g n (x, y, z, p, q, r, t)) :
    (∀ X : Ext W, X.wd.cell? ⟨g, n, none⟩ = some (.int .i64 x)) ∧ (∀ X : Ext W, X.wd.cell? ⟨g, n + 1, none⟩ = some (.int .i64 y)) ∧ (∀ X : Ext W, X.wd.cell? ⟨g, n + 2, none⟩ = some (.int .i64 z)) ∧
    (∀ X : Ext W, X.wd.cell? ⟨g, n + 3, none⟩ = some (.bool p)) ∧ (∀ X : Ext W, X.wd.cell? ⟨g, n + 4, none⟩ = some (.bool q)) ∧ (∀ X : Ext W, X.wd.cell? ⟨g, n + 5, none⟩ = some (.bool r)) ∧ (∀ X : Ext W, X.wd.cell? ⟨g, n + 6, none⟩ = some (.bool t)) :=
  ⟨fun X => (h.later X.le).cells.1, fun X => (h.later X.le).cells.2.1, fun X => (h.later X.le).cells.2.2.1, fun X => (h.later X.le).cells.2.2.2.1, fun X => (h.later X.le).cells.2.2.2.2.1, fun X => (h.later X.le).cells.2.2.2.2.2.1, fun X => (h.later X.le).cells.2.2.2.2.2.2⟩
theorem Blk.ext7 {W : World} {B : Nat} {t : TypeId} {c0 c1 c2 c3 c4 c5 c6 : Value} (h : Blk W B t #[c0, c1, c2, c3, c4, c5, c6]) :
    (∀ X : Ext W, X.wd.cell? ⟨B, 0, none⟩ = some c0) ∧ (∀ X : Ext W, X.wd.cell? ⟨B, 1, none⟩ = some c1) ∧ (∀ X : Ext W, X.wd.cell? ⟨B, 2, none⟩ = some c2) ∧
    (∀ X : Ext W, X.wd.cell? ⟨B, 3, none⟩ = some c3) ∧ (∀ X : Ext W, X.wd.cell? ⟨B, 4, none⟩ = some c4) ∧ (∀ X : Ext W, X.wd.cell? ⟨B, 5, none⟩ = some c5) ∧ (∀ X : Ext W, X.wd.cell? ⟨B, 6, none⟩ = some c6) :=
  ⟨fun X => (h.later X.le).seven.1, fun X => (h.later X.le).seven.2.1, fun X => (h.later X.le).seven.2.2.1, fun X => (h.later X.le).seven.2.2.2.1, fun X => (h.later X.le).seven.2.2.2.2.1, fun X => (h.later X.le).seven.2.2.2.2.2.1, fun X => (h.later X.le).seven.2.2.2.2.2.2⟩

theorem wpList_appB {ops : Array Oper} {rest : List Oper} {o : Oper} {a : Act} {Q : Exit → Act → World → Prop} {W : World} {base : Nat} {v : Value} {xs : List Wt} {x y z : Int} {p q r t : Bool} (hgd : o.guard = none) (s u : Operand)
    (ho : o.op = .call { callee := .builtin .append, args := #[s, u], argTypes := #[51, 51] }) (hs : a.eval s = v) (hx : a.eval u = .slice (some ⟨W.heap.size, 0, none⟩) 1 1)
    (hown : Wl W base v xs) (hl : xs.length ≤ 100000) (hb : base ≤ W.heap.size)
    (h : ∀ v' w', Wl w' base v' (xs ++ [(x, y, z, p, q, r, t)]) → Below base W w' → wpList Tryz.prog ops Q rest (a.put o.dst v') w') : wpList Tryz.prog ops Q (o :: rest) a (W.alloc (.cells (cells7 x y z p q r t) 26)) :=
  wpList_appW hgd s u ho hs hx hown hl hb fun v' w' hW hG _ => h v' w' hW ((Below.refl base W).grown hG hb (fun k hk => (World.ownsRow.lt hown k hk).1))

theorem At7.below {W W' : World} {g n m : Nat} {u : Wt} (h : At7 W g n u) (hb : Below m W W') (hg : g < m) : At7 W' g n u := by
  obtain ⟨cur, h1, h2⟩ := h
  exact ⟨cur, h1.below hb hg, h2⟩

/-- What holds at each round's head. -/
structure Pd (w : World) (u : Wt) (cs : Array Value) (l : List Wt) (k : Nat) (v : Value) (d : Bool) (out : List Wt) (wr : World) : Prop where
  st : stP u (l.take k) = (out, d)
  not : u ∉ l.take k
  lst : Wl wr (w.heap.size + 1) v out
  box : Blk wr w.heap.size 26 cs
  below : Below w.heap.size w wr
  size : w.heap.size + 1 ≤ wr.heap.size

section
variable {w : World} {u : Wt} {cs : Array Value} {l : List Wt} {k : Nat} {v : Value} {d : Bool} {out : List Wt} {wr w1 : World}
theorem Pd.later (P : Pd w u cs l k v d out wr) (h : Below wr.heap.size wr w1) : Pd w u cs l k v d out w1 :=
  ⟨P.st, P.not, P.lst.later h, P.box.later h, then_below P.below h, Nat.le_trans P.size h.size⟩
theorem Pd.few' (P : Pd w u cs l k v d out wr) (hl : l.length ≤ 100) : out.length ≤ 1000 := by
  have h := stP_len u (l.take k) ([], false)
  have e := P.st
  unfold stP at e
  rw [e] at h
  have h2 : (l.take k).length ≤ l.length := by rw [List.length_take]; omega
  simp at h
  omega
theorem Pd.next (P : Pd w u cs l k v d out wr) {x : Wt} {out' : List Wt} {d' : Bool} {v' : Value} (hk : k < l.length) (hx : l.getD k default = x) (hne : eqW x u = false) (hs : stepP u (out, d) x = (out', d')) (hW : Wl w1 (w.heap.size + 1) v' out') (hB : Below (w.heap.size + 1) wr w1) :
    Pd w u cs l (k + 1) v' d' out' w1 := by
  have e : l.take (k + 1) = l.take k ++ [x] := by
    rw [List.take_succ_eq_append_getElem hk, ← hx]
    simp [hk]
  have hne' : x ≠ u := by simpa [eqW] using hne
  refine ⟨by rw [e, stP_snoc, P.st, hs], ?_, hW, P.box.below hB (by omega), P.below.trans (hB.mono (by omega)), Nat.le_trans P.size hB.size⟩
  rw [e, List.mem_append, List.mem_singleton]
  rintro (h | h)
  · exact P.not h
  · exact hne' h.symm
end

set_option maxRecDepth 100000 in
set_option maxHeartbeats 8000000 in
theorem put_calls {l : List Wt} {vl : Value} {base : Nat} {x y z : Int} {p q r t : Bool} (w : World) (hL : Wl w base vl l) (hb : base ≤ w.heap.size) (hn : l.length ≤ 100) (hl : ∀ u ∈ l, mayT u) (hm : mayT (x, y, z, p, q, r, t)) :
    Calls Tryz.prog 58 #[vl, V7 x y z p q r t] w fun e W' => ∃ v, e = .returned v ∧ Wl W' base v (putT l (x, y, z, p, q, r, t)) ∧ Below w.heap.size w W' := by
  have hmx : Tryz.prog.follows .mixedOrders = true := by kernel_rfl
  obtain ⟨ao, cap, rfl, _⟩ := hL.view
  have hls := fun x1 y1 z1 p1 q1 r1 t1 w => wless_calls x y z p q r t x1 y1 z1 p1 q1 r1 t1 w
  obtain ⟨uu, huu⟩ : ∃ uu : Wt, uu = (x, y, z, p, q, r, t) := ⟨_, rfl⟩
  have HU : Hid (uu = (x, y, z, p, q, r, t)) := huu
  have HF : Hid (uu ∉ l → finP uu (stP uu l) = putT l uu) := fun h => fin_put (by rw [huu]; exact hm) hl h
  have HI : Hid (uu ∈ l → putT l uu = l) := fun h => by show putT l uu = l; unfold putT; rw [if_pos h]
  have HL : Hid (Wl w base (.slice ao l.length cap) l) := hL
  rw [← huu]
  generalize putT l uu = tgt at HF HI ⊢
  clear huu hL hl hm
  go_enter Tryz.func58, Tryz.ntmps58
  go_wp2
  go_loopw [5, 6, 7] (fun v dn i wr => ∃ (k : Nat) (d : Bool) (out : List Wt), k ≤ l.length ∧ i = .int .i64 k ∧ dn = .bool d ∧ Pd w uu (cells7 x y z p q r t) l k v d out wr) (fun _ _ i _ => l.length - (RowKit.intOf i).toNat)
  case atStart => exact ⟨0, false, [], by omega, rfl, rfl, by simp [stP], by simp, Wl.nil _ _, Blk.new _ _ _, (Below.refl _ w).alloc (Nat.le_refl _) _, by simp⟩
  case round =>
    obtain ⟨k, d, out, hk, rfl, rfl, P⟩ := hrel
    have hfew : out.length ≤ 100000 := Nat.le_trans (P.few' hn) (by omega)
    by_cases hlt : (k : Int) < (l.length : Int)
    · have hk' : k < l.length := by omega
      obtain ⟨g0, x1, y1, z1, p1, q1, r1, t1, rfl, hu, hat0⟩ := Wl.at HL.out hk'
      have hg0 := hat0.lt
      have hat := hat0.below P.below hg0
      have HU1 : Hid (l.getD k default = (x1, y1, z1, p1, q1, r1, t1)) := hu
      have hls1 := hls x1 y1 z1 p1 q1 r1 t1
      clear hu hat0 hls
      obtain ⟨e0, e1, e2, e3, e4, e5, e6⟩ := hat.ext
      obtain ⟨b0, b1, b2, b3, b4, b5, b6⟩ := P.box.ext7
      cases hq : eqW (x1, y1, z1, p1, q1, r1, t1) (x, y, z, p, q, r, t)
      · have HQ : Hid (eqW (x1, y1, z1, p1, q1, r1, t1) uu = false) := by show _ = _; rw [HU.out]; exact hq
        have hfew' : out.length ≤ 1000 := P.few' hn
        cases d
        · cases hlt1 : lessT (x, y, z, p, q, r, t) (x1, y1, z1, p1, q1, r1, t1)
          · rw [hlt1] at hls1
            have HS : Hid (stepP uu (out, false) (x1, y1, z1, p1, q1, r1, t1) = (out ++ [(x1, y1, z1, p1, q1, r1, t1)], false)) := by show _ = _; rw [HU.out]; simp [stepP, hlt1]
            clear hlt1
            go_wp2
            refine wp_region_look hmx (by kernel_rfl) ?_
            repeat (go_big_quiet_step (fail))
            refine wpQuiet_nil ?_
            intro X
            have P1 := P.later X.le
            have hat1 := hat.later X.le
            clear e0 e1 e2 e3 e4 e5 e6 b0 b1 b2 b3 b4 b5 b6 hat P
            generalize X.wd = w1 at P1 hat1 ⊢
            go_wp2
            obtain ⟨e0, e1, e2, e3, e4, e5, e6⟩ := hat1.ext
            obtain ⟨b0, b1, b2, b3, b4, b5, b6⟩ := P1.box.ext7
            refine wp_region_look hmx (by kernel_rfl) ?_
            repeat (go_big_quiet_step ((go_at_call 82; exact calls_ext (hls1 _))))
            refine wpQuiet_nil ?_
            intro Y
            have P2 := P1.later Y.le
            have hat2 := hat1.later Y.le
            clear e0 e1 e2 e3 e4 e5 e6 b0 b1 b2 b3 b4 b5 b6 hat1 P1
            generalize Y.wd = w2 at P2 hat2 ⊢
            obtain ⟨e0, e1, e2, e3, e4, e5, e6⟩ := hat2.cells
            obtain ⟨b0, b1, b2, b3, b4, b5, b6⟩ := P2.box.seven
            have hz := P2.size
            have hgl := hat2.lt
            go_wp2_with (first
              | (at_builtin; refine wpList_appB (base := w.heap.size + 1) (xs := out) rfl _ _ rfl rfl rfl P2.lst hfew hz ?_; intro v3 w3 hW3 hB3)
              | go_in)
            go_roundw
            case rel => exact ⟨k + 1, false, _, by omega, by go_num, rfl, P2.next hk' HU1.out HQ.out HS.out hW3 hB3⟩
            case measure => simp [RowKit.intOf]; omega
          · rw [hlt1] at hls1
            have HS : Hid (stepP uu (out, false) (x1, y1, z1, p1, q1, r1, t1) = (out ++ [(x, y, z, p, q, r, t)] ++ [(x1, y1, z1, p1, q1, r1, t1)], true)) := by show _ = _; rw [HU.out]; simp [stepP, hlt1]
            clear hlt1
            go_wp2
            refine wp_region_look hmx (by kernel_rfl) ?_
            repeat (go_big_quiet_step (fail))
            refine wpQuiet_nil ?_
            intro X
            have P1 := P.later X.le
            have hat1 := hat.later X.le
            clear e0 e1 e2 e3 e4 e5 e6 b0 b1 b2 b3 b4 b5 b6 hat P
            generalize X.wd = w1 at P1 hat1 ⊢
            go_wp2
            obtain ⟨e0, e1, e2, e3, e4, e5, e6⟩ := hat1.ext
            obtain ⟨b0, b1, b2, b3, b4, b5, b6⟩ := P1.box.ext7
            refine wp_region_look hmx (by kernel_rfl) ?_
            repeat (go_big_quiet_step ((go_at_call 82; exact calls_ext (hls1 _))))
            refine wpQuiet_nil ?_
            intro Y
            have P2 := P1.later Y.le
            have hat2 := hat1.later Y.le
            clear e0 e1 e2 e3 e4 e5 e6 b0 b1 b2 b3 b4 b5 b6 hat1 P1
            generalize Y.wd = w2 at P2 hat2 ⊢
            obtain ⟨e0, e1, e2, e3, e4, e5, e6⟩ := hat2.cells
            obtain ⟨b0, b1, b2, b3, b4, b5, b6⟩ := P2.box.seven
            have hz := P2.size
            have hgl := hat2.lt
            go_wp2_with (first
              | (at_builtin; refine wpList_appB (base := w.heap.size + 1) (xs := out ++ [(x, y, z, p, q, r, t)]) rfl _ _ rfl rfl rfl hW3 hl3 hz3 ?_; intro v4 w4 hW4 hB4)
              | (at_builtin; refine wpList_appB (base := w.heap.size + 1) (xs := out) rfl _ _ rfl rfl rfl P2.lst hfew hz ?_; intro v3 w3 hW3 hB3
                 obtain ⟨h0, h1, h2, h3, h4, h5, h6⟩ := (hat2.below hB3 (Nat.lt_succ_of_lt hg0)).cells
                 have hz3 := Nat.le_trans hz hB3.size
                 have hl3 : (out ++ [(x, y, z, p, q, r, t)]).length ≤ 100000 := by simp; omega)
              | go_in)
            go_roundw
            case rel => exact ⟨k + 1, true, _, by omega, by go_num, rfl, P2.next hk' HU1.out HQ.out HS.out hW4 (hB3.trans hB4)⟩
            case measure => simp [RowKit.intOf]; omega
        · have HS : Hid (stepP uu (out, true) (x1, y1, z1, p1, q1, r1, t1) = (out ++ [(x1, y1, z1, p1, q1, r1, t1)], true)) := rfl
          go_wp2
          refine wp_region_look hmx (by kernel_rfl) ?_
          repeat (go_big_quiet_step (fail))
          refine wpQuiet_nil ?_
          intro X
          have P1 := P.later X.le
          have hat1 := hat.later X.le
          clear e0 e1 e2 e3 e4 e5 e6 b0 b1 b2 b3 b4 b5 b6 hat P
          generalize X.wd = w1 at P1 hat1 ⊢
          go_wp2
          obtain ⟨e0, e1, e2, e3, e4, e5, e6⟩ := hat1.ext
          obtain ⟨b0, b1, b2, b3, b4, b5, b6⟩ := P1.box.ext7
          refine wp_region_look hmx (by kernel_rfl) ?_
          repeat (go_big_quiet_step ((go_at_call 82; exact calls_ext (hls1 _))))
          refine wpQuiet_nil ?_
          intro Y
          have P2 := P1.later Y.le
          have hat2 := hat1.later Y.le
          clear e0 e1 e2 e3 e4 e5 e6 b0 b1 b2 b3 b4 b5 b6 hat1 P1
          generalize Y.wd = w2 at P2 hat2 ⊢
          obtain ⟨e0, e1, e2, e3, e4, e5, e6⟩ := hat2.cells
          obtain ⟨b0, b1, b2, b3, b4, b5, b6⟩ := P2.box.seven
          have hz := P2.size
          have hgl := hat2.lt
          go_wp2_with (first
            | (at_builtin; refine wpList_appB (base := w.heap.size + 1) (xs := out) rfl _ _ rfl rfl rfl P2.lst hfew hz ?_; intro v3 w3 hW3 hB3)
            | go_in)
          go_roundw
          case rel => exact ⟨k + 1, true, _, by omega, by go_num, rfl, P2.next hk' HU1.out HQ.out HS.out hW3 hB3⟩
          case measure => simp [RowKit.intOf]; omega
      · have hin : uu ∈ l := by
          have : (x1, y1, z1, p1, q1, r1, t1) = (x, y, z, p, q, r, t) := by simpa [eqW] using hq
          rw [HU.out, ← this, ← HU1.out]
          simp [hk']
        obtain rfl := HI.out hin
        clear hin HF
        have hB := P.below
        go_wp2
        refine wp_region_look hmx (by kernel_rfl) ?_
        repeat (go_big_quiet_step (fail))
        refine wpQuiet_nil ?_
        intro X
        go_wp2
        go_ret
        exact ⟨_, rfl, (HL.out.later (then_below hB X.le)), then_below hB X.le⟩
    · obtain rfl : k = l.length := by omega
      have hst := P.st
      have hnot := P.not
      rw [List.take_length] at hst hnot
      have hF := HF.out hnot
      rw [hst] at hF
      clear hst hnot HI HF
      cases d
      · have hF' : out ++ [uu] = tgt := hF
        obtain ⟨b0, b1, b2, b3, b4, b5, b6⟩ := P.box.seven
        have hz := P.size
        have HF2 : Hid (out ++ [(x, y, z, p, q, r, t)] = tgt) := by show _ = _; rw [← HU.out]; exact hF'
        clear hF hF'
        go_wp2_with (first
          | (at_builtin; refine wpList_appB (base := w.heap.size + 1) (xs := out) rfl _ _ rfl rfl rfl P.lst hfew hz ?_; intro v3 w3 hW3 hB3)
          | go_in)
        go_ret
        exact ⟨_, rfl, HF2.out ▸ hW3.weak (by omega), P.below.trans (hB3.mono (by omega))⟩
      · have hF' : out = tgt := hF
        subst hF'
        clear hF
        have hW := P.lst.weak (show base ≤ w.heap.size + 1 by omega)
        have hB := P.below
        go_wp2
        go_ret
        exact ⟨_, rfl, hW, hB⟩

end Go.Proofs.YtlahfffgmfjpaaaGreatDoor

/-
  As Loud, where an operation itself may make memory too (a slice written out).
-/
namespace Go.Proofs.YtlahfffgmfjpaaaGreatDoor
open Go Go.RowKit Go.Shelf

section
variable {F : Fence} {n : Nat} {P : Program}

/-- What an operation comes to: a value, or a value and new memory, or a call. -/
def Comes2 (P : Program) (o : Oper) (a : Act) (w : World) (R : Value → World → Prop) : Prop :=
  (∃ v w', (execOp a.eval o).run P w = .ok (.value v) w' ∧ Below w.heap.size w w' ∧ R v w') ∨ (∃ f args, (execOp a.eval o).run P w = .ok (.enter f args) w ∧ Calls P f args w fun e w' => ∃ v, e = .returned v ∧ Below w.heap.size w w' ∧ R v w')

variable {l : List Oper} {a0 : Act} {w0 : World} {Q : Exit → Act → World → Prop} {S : Nat → Value → World → Prop}

theorem any_loud2 (hF : Loose F P) (hB : soloB l a0.tmps.size = true)
    (hS : ∀ i v w w', S i v w → Below w.heap.size w w' → S i v w')
    (hop : ∀ (i : Nat) (o : Oper), l[i]? = some o → ∀ (a : Act) (w : World), Below w0.heap.size w0 w → Like l a0 a → (∀ e ∈ o.after, Region.binds .any e = true → S e.on (slot l a e.on) w) → Comes2 P o a w (S i))
    (hend : ∀ (a : Act) (w : World), Below w0.heap.size w0 w → Like l a0 a → (∀ i, i < l.length → S i (slot l a i) w) → Q .normal a w) :
    ∀ (f : Nat) (L : Array Bool) (a : Act) (w : World), L.size = l.length → L.toList.count false ≤ f → Below w0.heap.size w0 w → Like l a0 a → (∀ i, L.getD i false = true → S i (slot l a i) w) → wpAnyIn F n P .any l.toArray Q f L a w := by
  have hbeg : beginB l l.length = true := (Bool.and_eq_true_iff.1 hB).2
  have hnd : noDefer l.toArray = true := (Bool.and_eq_true_iff.1 (Bool.and_eq_true_iff.1 hB).1).2
  have htake : l.take l.length = l := List.take_length
  have fin : ∀ (L : Array Bool) (a : Act) (w : World), L.size = l.length → Region.ready .any l.toArray L = [] → Below w0.heap.size w0 w → Like l a0 a → (∀ i, L.getD i false = true → S i (slot l a i) w) → Q .normal a w := by
    intro L a w hs hr hT hL hA
    have hfull := full_of_none (l := l) (m := l.length) hbeg hs (by rw [htake]; exact hr)
    refine hend a w hT hL fun i hi => hA i ?_
    rw [hfull]
    simp [Array.getD, hi]
  intro f
  induction f with
  | zero =>
    intro L a w hs hc hT hL hA
    have hall : Region.ready .any l.toArray L = [] := by
      apply List.eq_nil_iff_forall_not_mem.2
      intro i hi
      obtain ⟨h1, _⟩ := mem_ready.1 hi
      have h0 : L.toList.count false = 0 := by omega
      rw [List.count_eq_zero] at h0
      refine h0 ?_
      by_cases hlt : i < L.size
      · rw [Array.getD, dif_pos hlt] at h1
        rw [← h1]
        exact Array.getElem_mem_toList hlt
      · rw [Array.getD, dif_neg hlt] at h1; cases h1
    exact ⟨hall, fin L a w hs hall hT hL hA⟩
  | succ f ih =>
    intro L a w hs hc hT hL hA
    refine ⟨fun hr => fin L a w hs hr hT hL hA, fun i hi => ?_⟩
    obtain ⟨h1, o, ho, hall⟩ := mem_ready.1 hi
    have hol : l[i]? = some o := by simpa using ho
    have hil : i < l.length := (List.getElem?_eq_some_iff.1 hol).1
    obtain ⟨hg, hd, hlt, hne⟩ := solo_at hB hol
    have hcome := hop i o hol a w hT hL (fun e he hb => hA e.on (hall e he hb))
    have hnot : L.toList[i]? = some false := by
      have hlt' : i < L.size := by omega
      rw [Array.getD, dif_pos hlt'] at h1
      rw [Array.getElem?_toList, Array.getElem?_eq_getElem hlt']
      exact congrArg some h1
    have hnext : ∀ (v : Value) (w' : World), Below w.heap.size w w' → S i v w' → wpAnyIn F n P .any l.toArray Q f (L.setIfInBounds i true) (a.put o.dst v) w' := by
      intro v w' hB' hv
      rw [hd]
      refine ih _ _ w' (by simpa using hs) ?_ (then_below hT hB') ⟨?_, ?_, ?_⟩ ?_
      · have := count_set L.toList i hnot
        rw [Array.toList_setIfInBounds]
        omega
      · simp [Act.put]; exact hL.size
      · simp [Act.put]; exact hL.defers
      · intro t ht
        rw [put_ne (ht i hil)]
        exact hL.out t ht
      · intro j hj
        by_cases hij : j = i
        · subst hij
          show S j ((a.put (some (dstOf l j)) v).tmps.getD (dstOf l j) undef) w'
          rw [put_at (by rw [hL.size]; exact hlt)]
          exact hv
        · have hjl : L.getD j false = true := by
            rw [Array.getD_eq_getD_getElem?, Array.getElem?_setIfInBounds_ne (Ne.symm hij), ← Array.getD_eq_getD_getElem?] at hj
            exact hj
          have hjlt : j < l.length := by
            rcases Nat.lt_or_ge j L.size with h | h
            · omega
            · rw [Array.getD, dif_neg (by omega)] at hjl; cases hjl
          show S j ((a.put (some (dstOf l i)) v).tmps.getD (dstOf l j) undef) w'
          rw [getD_ne (hne j hjlt hij)]
          exact hS _ _ _ _ (hA j hjl) hB'
    have hfn : ∀ f, o.about P w a.eval = some f → F.fn f := fun f _ => hF.fn f
    simp only [wpOpIn, ho, Region.wanted, hg, if_true]
    refine ⟨hfn, ?_⟩
    rw [Oper.semAt_eq _ _ _ (noDefer_spec hnd ho)]
    rcases hcome with ⟨v, w', e, hB', hv⟩ | ⟨g, args, e, hc'⟩
    · rw [e]; exact hnext v w' hB' hv
    · rw [e]
      refine ⟨fun hx => (hF.depth hx).elim, hF.calls _ _ _ _ _ (hc'.mono ?_)⟩
      rintro x w' ⟨v, rfl, hB', hv⟩
      exact hnext v w' hB' hv

/-- In whatever order: each operation's word holds at the end. -/
theorem wp_region_loud2 {id : Nat} (S : Nat → Value → World → Prop) (hm : P.follows .mixedOrders = true) (hB : soloB l a0.tmps.size = true)
    (hS : ∀ i v w w', S i v w → Below w.heap.size w w' → S i v w')
    (hop : ∀ (i : Nat) (o : Oper), l[i]? = some o → ∀ (a : Act) (w : World), Below w0.heap.size w0 w → Like l a0 a → (∀ e ∈ o.after, Region.binds .any e = true → S e.on (slot l a e.on) w) → Comes2 P o a w (S i))
    (hend : ∀ (v : Nat → Value) (w : World), Below w0.heap.size w0 w → (∀ i, i < l.length → S i (v i) w) → Q .normal ((List.range l.length).foldl (fun b i => b.put (some (dstOf l i)) (v i)) a0) w) :
    (Code.region id l.toArray true).wp P Q a0 w0 := by
  refine (wpIn_wide (n := 0)).1 (wpIn_region_any hm ?_)
  refine any_loud2 (loose_wide P) hB hS hop (fun a w hT hL hA => ?_) _ _ _ _ (by simp) (by simp) ((Below.refl _ w0).drew) ⟨rfl, rfl, fun _ _ => rfl⟩ (fun i hi => ?_)
  · rw [like_puts hL]
    exact hend (slot l a) w hT hA
  · exfalso
    rw [Array.getD_eq_getD_getElem?] at hi
    simp [Array.getElem?_replicate] at hi
    split at hi <;> simp at hi
end
end Go.Proofs.YtlahfffgmfjpaaaGreatDoor

/-
  The document's Turns: the rotations, rising.
-/
namespace Go.Proofs.YtlahfffgmfjpaaaGreatDoor
open Go Go.RowKit Go.Shelf

attribute [local go_sem] Oper.semAt_some ext_const eq_ints_at eq_bools_at
attribute [local go_sem high] eq_wants

set_option maxRecDepth 100000 in
set_option maxHeartbeats 1000000 in
theorem turns_one {x y z : Int} {p q r : Bool} (w : World) :
    Calls Tryz.prog 30 #[V7 x y z p q r false] w fun e W' => ∃ v, e = .returned v ∧ Wl W' w.heap.size v [(x, y, z, p, q, r, false)] ∧ Below w.heap.size w W' := by
  have hB : Below w.heap.size w ((w.alloc (.cells (cells7 x y z p q r false) 26)).alloc (.cells (cells7 x y z p q r false) 26)) := ((Below.refl _ w).alloc (Nat.le_refl _) _).alloc (by simp) _
  have hO := Wl.one (w.alloc (.cells (cells7 x y z p q r false) 26)) w.heap.size (by simp) x y z p q r false
  have e1 : (w.alloc (.cells (cells7 x y z p q r false) 26)).heap.size = w.heap.size + 1 := by simp
  rw [e1] at hO
  clear e1
  have HO : Hid _ := hO
  clear hO
  go_enter Tryz.func30, Tryz.ntmps30
  go_wp2
  go_ret
  exact ⟨_, rfl, HO.out, hB⟩

theorem Wl.laid (W : World) (base : Nat) (hb : base ≤ W.heap.size) (ws : List Wt) (hl : ws.length ≤ 100) : Wl (W.alloc (.cells (flatW ws).toArray 26)) base (.slice (some ⟨W.heap.size, 0, none⟩) ws.length ws.length) ws :=
  ⟨flatW_len ws, .inr ⟨W.heap.size, ws.length, _, rfl, hb, Blk.new W _ _, Nat.le_refl _, by unfold maxLen; omega, by simp [flatW_len], by rw [← flatW_len]; simp⟩⟩

/-- What each operation of the list's statement leaves. -/
def wordT (x y z : Int) (p q r : Bool) (B : Nat) : Nat → Value → World → Prop
  | 0, v, _ => v = V7 x y z p q r true
  | 1, v, _ => v = V7 y x z q p r true
  | 2, v, _ => v = V7 x y z p q r true
  | 3, v, _ => v = V7 z y x r q p true
  | 4, v, _ => v = V7 x y z p q r true
  | 5, v, _ => v = V7 x z y p r q true
  | 6, v, _ => v = V7 x y z p q r true
  | 7, v, _ => v = V7 y x z q p r true
  | 8, v, _ => v = V7 y z x q r p true
  | 9, v, _ => v = V7 x y z p q r true
  | 10, v, _ => v = V7 y x z q p r true
  | 11, v, _ => v = V7 z x y r p q true
  | 12, v, w => ∃ g, v = .slice (some ⟨g, 0, none⟩) 5 5 ∧ Wl w B v (others (x, y, z, p, q, r, true))
  | 13, v, _ => v = I 5
  | 14, v, _ => v = I 0
  | _, _, _ => False
theorem wordT_later (x y z : Int) (p q r : Bool) (B : Nat) : ∀ i v w w', wordT x y z p q r B i v w → Below w.heap.size w w' → wordT x y z p q r B i v w' := by
  intro i v w w' h hB
  match i, h with
  | 0, h => exact h
  | 1, h => exact h
  | 2, h => exact h
  | 3, h => exact h
  | 4, h => exact h
  | 5, h => exact h
  | 6, h => exact h
  | 7, h => exact h
  | 8, h => exact h
  | 9, h => exact h
  | 10, h => exact h
  | 11, h => exact h
  | 12, h => obtain ⟨g, e, hW⟩ := h; exact ⟨g, e, hW.later hB⟩
  | 13, h => exact h
  | 14, h => exact h
  | n + 15, h => exact h.elim

def foldT (u : Wt) (k : Nat) : List Wt := ((others u).take k).foldl putT [u]
theorem fold_next (u : Wt) {k : Nat} (hk : k < 5) : foldT u (k + 1) = putT (foldT u k) ((others u).getD k default) := by
  have hl : k < (others u).length := hk
  unfold foldT
  rw [List.take_succ_eq_append_getElem hl, List.foldl_append]
  simp [hl]
theorem put_len (l : List Wt) (u : Wt) : (putT l u).length ≤ l.length + 1 := by
  have : ∀ l : List Wt, (insT u l).length = l.length + 1 := by
    intro l
    induction l with
    | nil => rfl
    | cons x l ih => unfold insT; split <;> simp [ih]
  unfold putT
  split
  · omega
  · rw [this]; omega
theorem fold_len (u : Wt) : ∀ k, k ≤ 5 → (foldT u k).length ≤ 1 + k
  | 0, _ => by simp [foldT]
  | k + 1, h => by
    have := fold_len u k (by omega)
    rw [fold_next u (by omega)]
    have := put_len (foldT u k) ((others u).getD k default)
    omega
theorem fold_may {u : Wt} (hu : mayT u) (k : Nat) : ∀ x ∈ foldT u k, mayT x := by
  intro x hx
  unfold foldT at hx
  rw [fold_mem] at hx
  refine (six_may hu ?_).1
  rcases hx with h | h
  · exact List.mem_cons_of_mem _ (List.mem_of_mem_take h)
  · rw [List.mem_singleton.1 h]; simp [six]
theorem others_may {u : Wt} (hu : mayT u) {k : Nat} (hk : k < 5) : mayT ((others u).getD k default) := by
  have hl : k < (others u).length := hk
  refine (six_may hu (List.mem_cons_of_mem _ ?_)).1
  simp [hl]

set_option maxRecDepth 100000 in
set_option maxHeartbeats 8000000 in
theorem wturns_six {x y z : Int} {p q r : Bool} (w : World) (hm : mayT (x, y, z, p, q, r, true)) :
    Calls Tryz.prog 30 #[V7 x y z p q r true] w fun e W' => ∃ v, e = .returned v ∧ Wl W' w.heap.size v (turnsT (x, y, z, p, q, r, true)) ∧ Below w.heap.size w W' := by
  have hmx : Tryz.prog.follows .mixedOrders = true := by kernel_rfl
  have HE : Hid (turnsT (x, y, z, p, q, r, true) = foldT (x, y, z, p, q, r, true) 5) := rfl
  obtain ⟨uu, huu⟩ : ∃ uu : Wt, uu = (x, y, z, p, q, r, true) := ⟨_, rfl⟩
  have HU : Hid (uu = (x, y, z, p, q, r, true)) := huu
  have HM : Hid (mayT uu) := by rw [huu]; exact hm
  generalize turnsT (x, y, z, p, q, r, true) = tgt at HE ⊢
  rw [← huu] at HE
  clear hm huu
  obtain ⟨W, hW, hBW, b0, b1⟩ := two_start w (cells7 x y z p q r true) (cells7 x y z p q r true) 26 26
  have hO := Wl.one (w.alloc (.cells (cells7 x y z p q r true) 26)) w.heap.size (by simp) x y z p q r true
  have e1 : (w.alloc (.cells (cells7 x y z p q r true) 26)).heap.size = w.heap.size + 1 := by simp
  rw [e1, hW] at hO
  have HO : Hid (Wl W w.heap.size (.slice (some ⟨w.heap.size + 1, 0, none⟩) 1 1) [(x, y, z, p, q, r, true)]) := hO
  clear e1 hO
  obtain ⟨s0, s1, s2, s3, s4, s5, s6⟩ := b0.seven
  go_enter Tryz.func30, Tryz.ntmps30
  go_wp2
  clear hW s0 s1 s2 s3 s4 s5 s6
  refine wp_region_loud2 (w0 := W) (wordT x y z p q r w.heap.size) hmx (by kernel_rfl) (wordT_later _ _ _ _ _ _ _) ?_ ?_
  · intro i o hi a w' hT hL hpre
    have t1 : a.tmps.getD 1 undef = .pointer (some ⟨w.heap.size, 0, none⟩) := by
      rw [Array.getD_eq_getD_getElem?, hL.out 1 (of_decide_eq_true (by kernel_rfl))]; rfl
    obtain ⟨c0, c1, c2, c3, c4, c5, c6⟩ := (b0.later hT).seven
    clear hL
    match i, hi with
    | 0, hi =>
      obtain rfl := Option.some.inj hi
      refine .inl ⟨V7 x y z p q r true, w', ?_, Below.refl _ _, rfl⟩
      simp [execOp, go_sem, Act.eval, t1, c0, c1, c2, c3, c4, c5, c6]
    | 1, hi =>
      obtain rfl := Option.some.inj hi
      have p0 : a.tmps.getD 12 undef = V7 x y z p q r true := hpre ⟨0, .data⟩ (by simp) rfl
      refine .inr ⟨57, #[V7 x y z p q r true, I 0, I 1], ?_, ?_⟩
      · simp [go_sem, Act.eval, p0]
      · refine (swapped_01 _ _ _ _ _ _ _ w').mono ?_
        rintro e w'' ⟨rfl, hB⟩
        exact ⟨_, rfl, hB, rfl⟩
    | 2, hi =>
      obtain rfl := Option.some.inj hi
      refine .inl ⟨V7 x y z p q r true, w', ?_, Below.refl _ _, rfl⟩
      simp [execOp, go_sem, Act.eval, t1, c0, c1, c2, c3, c4, c5, c6]
    | 3, hi =>
      obtain rfl := Option.some.inj hi
      have p0 : a.tmps.getD 14 undef = V7 x y z p q r true := hpre ⟨2, .data⟩ (by simp) rfl
      refine .inr ⟨57, #[V7 x y z p q r true, I 0, I 2], ?_, ?_⟩
      · simp [go_sem, Act.eval, p0]
      · refine (swapped_02 _ _ _ _ _ _ _ w').mono ?_
        rintro e w'' ⟨rfl, hB⟩
        exact ⟨_, rfl, hB, rfl⟩
    | 4, hi =>
      obtain rfl := Option.some.inj hi
      refine .inl ⟨V7 x y z p q r true, w', ?_, Below.refl _ _, rfl⟩
      simp [execOp, go_sem, Act.eval, t1, c0, c1, c2, c3, c4, c5, c6]
    | 5, hi =>
      obtain rfl := Option.some.inj hi
      have p0 : a.tmps.getD 16 undef = V7 x y z p q r true := hpre ⟨4, .data⟩ (by simp) rfl
      refine .inr ⟨57, #[V7 x y z p q r true, I 1, I 2], ?_, ?_⟩
      · simp [go_sem, Act.eval, p0]
      · refine (swapped_12 _ _ _ _ _ _ _ w').mono ?_
        rintro e w'' ⟨rfl, hB⟩
        exact ⟨_, rfl, hB, rfl⟩
    | 6, hi =>
      obtain rfl := Option.some.inj hi
      refine .inl ⟨V7 x y z p q r true, w', ?_, Below.refl _ _, rfl⟩
      simp [execOp, go_sem, Act.eval, t1, c0, c1, c2, c3, c4, c5, c6]
    | 7, hi =>
      obtain rfl := Option.some.inj hi
      have p0 : a.tmps.getD 18 undef = V7 x y z p q r true := hpre ⟨6, .data⟩ (by simp) rfl
      refine .inr ⟨57, #[V7 x y z p q r true, I 0, I 1], ?_, ?_⟩
      · simp [go_sem, Act.eval, p0]
      · refine (swapped_01 _ _ _ _ _ _ _ w').mono ?_
        rintro e w'' ⟨rfl, hB⟩
        exact ⟨_, rfl, hB, rfl⟩
    | 8, hi =>
      obtain rfl := Option.some.inj hi
      have p0 : a.tmps.getD 19 undef = V7 y x z q p r true := hpre ⟨7, .data⟩ (by simp) rfl
      refine .inr ⟨57, #[V7 y x z q p r true, I 1, I 2], ?_, ?_⟩
      · simp [go_sem, Act.eval, p0]
      · refine (swapped_12 _ _ _ _ _ _ _ w').mono ?_
        rintro e w'' ⟨rfl, hB⟩
        exact ⟨_, rfl, hB, rfl⟩
    | 9, hi =>
      obtain rfl := Option.some.inj hi
      refine .inl ⟨V7 x y z p q r true, w', ?_, Below.refl _ _, rfl⟩
      simp [execOp, go_sem, Act.eval, t1, c0, c1, c2, c3, c4, c5, c6]
    | 10, hi =>
      obtain rfl := Option.some.inj hi
      have p0 : a.tmps.getD 21 undef = V7 x y z p q r true := hpre ⟨9, .data⟩ (by simp) rfl
      refine .inr ⟨57, #[V7 x y z p q r true, I 0, I 1], ?_, ?_⟩
      · simp [go_sem, Act.eval, p0]
      · refine (swapped_01 _ _ _ _ _ _ _ w').mono ?_
        rintro e w'' ⟨rfl, hB⟩
        exact ⟨_, rfl, hB, rfl⟩
    | 11, hi =>
      obtain rfl := Option.some.inj hi
      have p0 : a.tmps.getD 22 undef = V7 y x z q p r true := hpre ⟨10, .data⟩ (by simp) rfl
      refine .inr ⟨57, #[V7 y x z q p r true, I 0, I 2], ?_, ?_⟩
      · simp [go_sem, Act.eval, p0]
      · refine (swapped_02 _ _ _ _ _ _ _ w').mono ?_
        rintro e w'' ⟨rfl, hB⟩
        exact ⟨_, rfl, hB, rfl⟩
    | 12, hi =>
      obtain rfl := Option.some.inj hi
      have p1 : a.tmps.getD 13 undef = V7 y x z q p r true := hpre ⟨1, .data⟩ (by simp) rfl
      have p3 : a.tmps.getD 15 undef = V7 z y x r q p true := hpre ⟨3, .data⟩ (by simp) rfl
      have p5 : a.tmps.getD 17 undef = V7 x z y p r q true := hpre ⟨5, .data⟩ (by simp) rfl
      have p8 : a.tmps.getD 20 undef = V7 y z x q r p true := hpre ⟨8, .data⟩ (by simp) rfl
      have p11 : a.tmps.getD 23 undef = V7 z x y r p q true := hpre ⟨11, .data⟩ (by simp) rfl
      refine .inl ⟨.slice (some ⟨w'.heap.size, 0, none⟩) 5 5, w'.alloc (.cells (flatW (others (x, y, z, p, q, r, true))).toArray 26), ?_, (Below.refl _ _).alloc (Nat.le_refl _) _, _, rfl, Wl.laid w' _ (Nat.le_trans hBW.size hT.size) _ (by simp [others])⟩
      rw [Array.getD_eq_getD_getElem?] at p1 p3 p5 p8 p11
      simp [execOp, go_sem, Act.eval, p1, p3, p5, p8, p11, flatW, others, s01, s02, s12, cellsW]
    | 13, hi =>
      obtain rfl := Option.some.inj hi
      obtain ⟨g, p12, _⟩ : ∃ g, a.tmps.getD 24 undef = .slice (some ⟨g, 0, none⟩) 5 5 ∧ _ := hpre ⟨12, .data⟩ (by simp) rfl
      refine .inl ⟨I 5, w', ?_, Below.refl _ _, rfl⟩
      simp [go_sem, Act.eval, p12]
    | 14, hi =>
      obtain rfl := Option.some.inj hi
      refine .inl ⟨I 0, w', ?_, Below.refl _ _, rfl⟩
      simp [execOp, go_sem, Act.eval]
    | n + 15, hi => simp at hi
  · intro v w2 hT hw
    obtain ⟨g, e12, hLs⟩ : wordT x y z p q r w.heap.size 12 (v 12) w2 := hw 12 (by decide)
    have e13 : v 13 = I 5 := hw 13 (by decide)
    have e14 : v 14 = I 0 := hw 14 (by decide)
    rw [e12] at hLs
    have HLs : Hid (Wl w2 w.heap.size (.slice (some ⟨g, 0, none⟩) 5 5) (others uu)) := by rw [HU.out]; exact hLs
    have HO2 : Hid (Wl w2 w.heap.size (.slice (some ⟨w.heap.size + 1, 0, none⟩) 1 1) (foldT uu 0)) := by rw [HU.out]; exact HO.out.later hT
    have HB2 : Hid (Below w.heap.size w w2) := then_below hBW hT
    clear hLs HO hw hT hBW b0 b1
    simp only [List.length_cons, List.length_nil, Nat.zero_add, Nat.reduceAdd, List.range, List.range.loop, List.foldl_cons, List.foldl_nil, dstOf, List.getElem?_cons_zero, List.getElem?_cons_succ, Option.getD_some, Act.put, e12, e13, e14]
    clear e12 e13 e14
    generalize v 0 = v0
    generalize v 1 = v1
    generalize v 2 = v2
    generalize v 3 = v3
    generalize v 4 = v4
    generalize v 5 = v5
    generalize v 6 = v6
    generalize v 7 = v7
    generalize v 8 = v8
    generalize v 9 = v9
    generalize v 10 = v10
    generalize v 11 = v11
    go_wp2
    simp only [List.setIfInBounds_toArray, List.set_cons_succ, List.set_cons_zero]
    go_loopw [3, 26] (fun vl i wr => ∃ k : Nat, k ≤ 5 ∧ i = .int .i64 k ∧ Wl wr w.heap.size vl (foldT uu k) ∧ Below w2.heap.size w2 wr) (fun _ i _ => 5 - (RowKit.intOf i).toNat)
    case atStart => exact ⟨0, by omega, rfl, HO2.out, Below.refl _ _⟩
    case round =>
      obtain ⟨k, hk, rfl, hL, hT⟩ := hrel
      by_cases hlt : (k : Int) < 5
      · have hk' : k < 5 := by omega
        obtain ⟨g', x1, y1, z1, p1, q1, r1, t1, hg, hu, hat⟩ := Wl.at (HLs.out.later hT) (show k < (others uu).length from hk')
        have hg' : g' = g := by
          simp only [Option.some.injEq, Addr.mk.injEq, and_true] at hg
          exact hg.symm
        subst hg'
        obtain ⟨c0, c1, c2, c3, c4, c5, c6⟩ := hat.cells
        have hgl := hat.lt
        have HP : Hid (∀ (w' : World) (vl : Value), Wl w' w.heap.size vl (foldT uu k) → w.heap.size ≤ w'.heap.size → Calls Tryz.prog 58 #[vl, V7 x1 y1 z1 p1 q1 r1 t1] w' fun e W' => ∃ v, e = .returned v ∧ Wl W' w.heap.size v (foldT uu (k + 1)) ∧ Below w'.heap.size w' W') := by
          intro w' vl h h'
          rw [fold_next uu hk', hu]
          exact put_calls w' h h' (by have := fold_len uu k hk; omega) (fold_may HM.out k) (by rw [← hu]; exact others_may HM.out hk')
        clear hg hu hat
        have hT' := then_alloc hT (.cells (cells7 x1 y1 z1 p1 q1 r1 t1) 26)
        have hL' := Wl.later hL ((Below.refl _ wr).alloc (Nat.le_refl _) (.cells (cells7 x1 y1 z1 p1 q1 r1 t1) 26))
        have hz := Nat.le_trans HB2.out.size hT'.size
        go_wp2_with (go_at_call 58; refine (HP.out _ _ hL' hz).mono ?_; rintro e w4 ⟨v4, rfl, hL4, hB4⟩)
        go_roundw
        case rel => exact ⟨k + 1, by omega, by go_num, hL4, then_below hT' hB4⟩
        case measure => simp [RowKit.intOf]; omega
      · obtain rfl : k = 5 := by omega
        rw [← HE.out] at hL
        have hB := then_below HB2.out hT
        go_wp2
        go_ret
        exact ⟨_, rfl, hL, hB⟩

end Go.Proofs.YtlahfffgmfjpaaaGreatDoor

/-
  The document's All, Fits, Of for layer 4.
-/
namespace Go.Proofs.YtlahfffgmfjpaaaGreatDoor
open Go Go.RowKit Go.Shelf

attribute [local go_sem] Oper.semAt_some ext_const eq_ints_at eq_bools_at
attribute [local go_sem high] eq_wants

theorem turns_calls {x y z : Int} {p q r t : Bool} (w : World) (hm : mayD x y z) :
    Calls Tryz.prog 30 #[V7 x y z p q r t] w fun e W' => ∃ v, e = .returned v ∧ Wl W' w.heap.size v (turnsT (x, y, z, p, q, r, t)) ∧ Below w.heap.size w W' := by
  cases t
  · exact turns_one w
  · exact wturns_six w (mayT_D.2 hm)
end Go.Proofs.YtlahfffgmfjpaaaGreatDoor

/-
  The document's less of places: which of two at one midplane comes first. (Written by tools/gen/spots_ref_less.py.)
-/
import Derived.Test.YtlahfffgmfjpaaaGreatDoorPart30
namespace Go.Proofs.YtlahfffgmfjpaaaGreatDoor
open Go Go.RowKit Go.Shelf Go.Maps

attribute [local go_sem] Oper.semAt_some ext_const ixI0 ixI1 ixI2

/-- At one midplane. -/
def lessP (a b : Pl) : Bool := lessT (kdP a) (kdP b)

set_option maxRecDepth 100000 in
set_option maxHeartbeats 4000000 in
theorem pless_calls (b : Bx) (p q r : Bool) (b' : Bx) (p' q' r' : Bool) (w : World) :
    Calls Tryz.prog 59 #[P9 b p q r, P9 b' p' q' r'] w fun e W' => e = .returned (.bool (lessP (b, p, q, r) (b', p', q', r'))) ∧ Below w.heap.size w W' := by
  obtain ⟨W, hW, hBW, b0, b1⟩ := two_start w (C9 b p q r) (C9 b' p' q' r') 32 32
  have HG : Hid (∀ n, Below w.heap.size w (W.drewN n)) := fun n => below_drewN W n hBW
  obtain ⟨_, ⟨s0, s1, s2⟩, ⟨s3, s4, s5⟩, sz⟩ := b0.nine (Below.refl _ _)
  obtain ⟨_, ⟨d0, d1, d2⟩, ⟨d3, d4, d5⟩, dz⟩ := b1.nine (Below.refl _ _)
  clear b0 b1 hBW
  have HA : Hid (lessP (b, p, q, r) (b', p', q', r') = if b.a ≠ b'.a then decide (b.a < b'.a) else if b.b ≠ b'.b then decide (b.b < b'.b) else if b.c ≠ b'.c then decide (b.c < b'.c) else if p ≠ p' then decide (bit p < bit p') else if q ≠ q' then decide (bit q < bit q') else if r ≠ r' then decide (bit r < bit r') else false) := rfl
  generalize lessP (b, p, q, r) (b', p', q', r') = ans at HA ⊢
  have HW : Hid ((w.alloc (.cells (C9 b p q r) 32)).alloc (.cells (C9 b' p' q' r') 32) = W) := hW
  clear hW
  go_enter Tryz.func59, Tryz.ntmps59
  go_wp2
  rw [HW.out]
  clear HW
  generalize b.a = x at *
  generalize b.b = y at *
  generalize b.c = z at *
  generalize b'.a = x' at *
  generalize b'.b = y' at *
  generalize b'.c = z' at *
  go_loopw [5] (fun i wr => ∃ n, wr = W.drewN n ∧ (i = .int .i64 0 ∨ (i = .int .i64 1 ∧ Hid (x = x')) ∨ (i = .int .i64 2 ∧ Hid (x = x' ∧ y = y')) ∨ (i = .int .i64 3 ∧ Hid (x = x' ∧ y = y' ∧ z = z')))) (fun i _ => 3 - (RowKit.intOf i).toNat)
  case atStart => exact ⟨0, rfl, .inl rfl⟩
  case round =>
    obtain ⟨n, rfl, hrel⟩ := hrel
    rcases hrel with rfl | ⟨rfl, H0⟩ | ⟨rfl, H0⟩ | ⟨rfl, H0⟩
    · have HQ : Hid (x ≠ x' → ans = decide (x < x')) := fun hq => by rw [HA.out]; simp [hq]
      by_cases hq : x = x'
      · have HN : Hid (x = x') := hq
        have hq' : (x != x') = false := by simpa using hq
        clear hq HQ
        go_wp2
        go_quiet (fail)
        go_wp2
        go_roundw
        case rel => exact ⟨_, rfl, .inr (.inl ⟨rfl, HN⟩)⟩
        case measure => simp [RowKit.intOf]
      · have hans := HQ.out hq
        have HQ' : Hid (decide (x < x') = ans) := hans.symm
        have hq' : (x != x') = true := by simpa using hq
        clear HQ hans hq
        go_wp2
        go_quiet (fail)
        go_wp2
        go_quiet (fail)
        go_wp2
        go_ret
        exact ⟨by first | rfl | (rw [← HQ'.out]; rfl) | (rw [← HQ'.out]; simp), by first | exact HG.out _ | (simp only [World.drewN_drewN]; exact HG.out _)⟩
    · have HQ : Hid (y ≠ y' → ans = decide (y < y')) := fun hq => by rw [HA.out]; simp [H0.out, hq]
      by_cases hq : y = y'
      · have HN : Hid (x = x' ∧ y = y') := ⟨H0.out, hq⟩
        have hq' : (y != y') = false := by simpa using hq
        clear hq HQ
        go_wp2
        go_quiet (fail)
        go_wp2
        go_roundw
        case rel => exact ⟨_, rfl, .inr (.inr (.inl ⟨rfl, HN⟩))⟩
        case measure => simp [RowKit.intOf]
      · have hans := HQ.out hq
        have HQ' : Hid (decide (y < y') = ans) := hans.symm
        have hq' : (y != y') = true := by simpa using hq
        clear HQ hans hq
        go_wp2
        go_quiet (fail)
        go_wp2
        go_quiet (fail)
        go_wp2
        go_ret
        exact ⟨by first | rfl | (rw [← HQ'.out]; rfl) | (rw [← HQ'.out]; simp), by first | exact HG.out _ | (simp only [World.drewN_drewN]; exact HG.out _)⟩
    · have HQ : Hid (z ≠ z' → ans = decide (z < z')) := fun hq => by rw [HA.out]; simp [H0.out.1, H0.out.2, hq]
      by_cases hq : z = z'
      · have HN : Hid (x = x' ∧ y = y' ∧ z = z') := ⟨H0.out.1, H0.out.2, hq⟩
        have hq' : (z != z') = false := by simpa using hq
        clear hq HQ
        go_wp2
        go_quiet (fail)
        go_wp2
        go_roundw
        case rel => exact ⟨_, rfl, .inr (.inr (.inr ⟨rfl, HN⟩))⟩
        case measure => simp [RowKit.intOf]
      · have hans := HQ.out hq
        have HQ' : Hid (decide (z < z') = ans) := hans.symm
        have hq' : (z != z') = true := by simpa using hq
        clear HQ hans hq
        go_wp2
        go_quiet (fail)
        go_wp2
        go_quiet (fail)
        go_wp2
        go_ret
        exact ⟨by first | rfl | (rw [← HQ'.out]; rfl) | (rw [← HQ'.out]; simp), by first | exact HG.out _ | (simp only [World.drewN_drewN]; exact HG.out _)⟩
    · go_wp2
      go_loopw [6] (fun i wr => ∃ n, wr = W.drewN n ∧ (i = .int .i64 0 ∨ (i = .int .i64 1 ∧ Hid (p = p')) ∨ (i = .int .i64 2 ∧ Hid (p = p' ∧ q = q')) ∨ (i = .int .i64 3 ∧ Hid (p = p' ∧ q = q' ∧ r = r')))) (fun i _ => 3 - (RowKit.intOf i).toNat)
      case atStart => exact ⟨n, rfl, .inl rfl⟩
      case round =>
        obtain ⟨n, rfl, hrel⟩ := hrel
        obtain ⟨E0, E1, E2⟩ := H0.out
        rcases hrel with rfl | ⟨rfl, H1⟩ | ⟨rfl, H1⟩ | ⟨rfl, H1⟩
        · have HQ : Hid (p ≠ p' → ans = p') := fun hq => by
            rw [HA.out, show decide (bit p < bit p') = p' by revert hq; cases p <;> cases p' <;> simp [bit]]
            simp [E0, E1, E2, hq]
          clear E0 E1 E2
          by_cases hq : p = p'
          · have HN : Hid (p = p') := hq
            have hq' : (p == p') = true := by simpa using hq
            clear hq HQ
            go_wp2
            go_quiet (fail)
            go_wp2
            go_roundw
            case rel => exact ⟨_, rfl, .inr (.inl ⟨rfl, HN⟩)⟩
            case measure => simp [RowKit.intOf]
          · have hans := HQ.out hq
            have HQ' : Hid (p' = ans) := hans.symm
            have hq' : (p == p') = false := by simpa using hq
            clear HQ hans hq
            go_wp2
            go_quiet (fail)
            go_wp2
            go_ret
            exact ⟨by rw [← HQ'.out]; rfl, by first | exact HG.out _ | (simp only [World.drewN_drewN]; exact HG.out _)⟩
        · have HQ : Hid (q ≠ q' → ans = q') := fun hq => by
            rw [HA.out, show decide (bit q < bit q') = q' by revert hq; cases q <;> cases q' <;> simp [bit]]
            simp [E0, E1, E2, H1.out, hq]
          clear E0 E1 E2
          by_cases hq : q = q'
          · have HN : Hid (p = p' ∧ q = q') := ⟨H1.out, hq⟩
            have hq' : (q == q') = true := by simpa using hq
            clear hq HQ
            go_wp2
            go_quiet (fail)
            go_wp2
            go_roundw
            case rel => exact ⟨_, rfl, .inr (.inr (.inl ⟨rfl, HN⟩))⟩
            case measure => simp [RowKit.intOf]
          · have hans := HQ.out hq
            have HQ' : Hid (q' = ans) := hans.symm
            have hq' : (q == q') = false := by simpa using hq
            clear HQ hans hq
            go_wp2
            go_quiet (fail)
            go_wp2
            go_ret
            exact ⟨by rw [← HQ'.out]; rfl, by first | exact HG.out _ | (simp only [World.drewN_drewN]; exact HG.out _)⟩
        · have HQ : Hid (r ≠ r' → ans = r') := fun hq => by
            rw [HA.out, show decide (bit r < bit r') = r' by revert hq; cases r <;> cases r' <;> simp [bit]]
            simp [E0, E1, E2, H1.out.1, H1.out.2, hq]
          clear E0 E1 E2
          by_cases hq : r = r'
          · have HN : Hid (p = p' ∧ q = q' ∧ r = r') := ⟨H1.out.1, H1.out.2, hq⟩
            have hq' : (r == r') = true := by simpa using hq
            clear hq HQ
            go_wp2
            go_quiet (fail)
            go_wp2
            go_roundw
            case rel => exact ⟨_, rfl, .inr (.inr (.inr ⟨rfl, HN⟩))⟩
            case measure => simp [RowKit.intOf]
          · have hans := HQ.out hq
            have HQ' : Hid (r' = ans) := hans.symm
            have hq' : (r == r') = false := by simpa using hq
            clear HQ hans hq
            go_wp2
            go_quiet (fail)
            go_wp2
            go_ret
            exact ⟨by rw [← HQ'.out]; rfl, by first | exact HG.out _ | (simp only [World.drewN_drewN]; exact HG.out _)⟩
        · have HQ : Hid (ans = false) := by
            show _ = _
            rw [HA.out]
            simp [E0, E1, E2, H1.out.1, H1.out.2.1, H1.out.2.2]
          clear E0 E1 E2
          go_wp2
          go_ret
          exact ⟨by rw [HQ.out]; rfl, HG.out _⟩

end Go.Proofs.YtlahfffgmfjpaaaGreatDoor

/-
  The document's put of places: a rising list at one midplane with one more, if it is not there.
-/
namespace Go.Proofs.YtlahfffgmfjpaaaGreatDoor
open Go Go.RowKit Go.Shelf Go.Maps

attribute [local go_sem] Oper.semAt_some ext_const ixI0 ixI1 ixI2
attribute [local go_sem high] eq_place

def stepQ (u : Pl) (s : List Pl × Bool) (x : Pl) : List Pl × Bool := if !s.2 && lessP u x then (s.1 ++ [u] ++ [x], true) else (s.1 ++ [x], s.2)
def stQ (u : Pl) (xs : List Pl) : List Pl × Bool := xs.foldl (stepQ u) ([], false)
def finQ (u : Pl) (s : List Pl × Bool) : List Pl := if s.2 then s.1 else s.1 ++ [u]
def putQ (l : List Pl) (u : Pl) : List Pl := if (l.any fun x => eqP x u) = true then l else finQ u (stQ u l)
theorem any_in {l : List Pl} {u : Pl} : (l.any fun x => eqP x u) = true ↔ u ∈ l := by
  rw [List.any_eq_true]
  exact ⟨fun ⟨x, hx, h⟩ => (eqP_iff.1 h) ▸ hx, fun h => ⟨u, h, eqP_self u⟩⟩
theorem stQ_snoc (u : Pl) (xs : List Pl) (x : Pl) : stQ u (xs ++ [x]) = stepQ u (stQ u xs) x := by simp [stQ]
theorem stQ_len (u : Pl) : ∀ (xs : List Pl) (s : List Pl × Bool), (xs.foldl (stepQ u) s).1.length ≤ s.1.length + 2 * xs.length
  | [], s => by simp
  | x :: xs, s => by
    have h := stQ_len u xs (stepQ u s x)
    have : (stepQ u s x).1.length ≤ s.1.length + 2 := by unfold stepQ; split <;> simp
    rw [List.foldl_cons]
    simp only [List.length_cons]
    omega
theorem ext9 {W : World} {B : Nat} {t : TypeId} {b : Bx} {p q r : Bool} (h : Blk W B t (C9 b p q r)) :
    (∀ X : Ext W, X.wd.cell? ⟨B, 0, none⟩ = some (I b.x)) ∧ (∀ X : Ext W, X.wd.cell? ⟨B, 1, none⟩ = some (I b.y)) ∧ (∀ X : Ext W, X.wd.cell? ⟨B, 2, none⟩ = some (I b.z)) ∧
    (∀ X : Ext W, X.wd.cell? ⟨B, 3, none⟩ = some (I b.a)) ∧ (∀ X : Ext W, X.wd.cell? ⟨B, 4, none⟩ = some (I b.b)) ∧ (∀ X : Ext W, X.wd.cell? ⟨B, 5, none⟩ = some (I b.c)) ∧
    (∀ X : Ext W, X.wd.cell? ⟨B, 6, none⟩ = some (.bool p)) ∧ (∀ X : Ext W, X.wd.cell? ⟨B, 7, none⟩ = some (.bool q)) ∧ (∀ X : Ext W, X.wd.cell? ⟨B, 8, none⟩ = some (.bool r)) :=
  ⟨fun X => Ext.cell h 0 X, fun X => Ext.cell h 1 X, fun X => Ext.cell h 2 X, fun X => Ext.cell h 3 X, fun X => Ext.cell h 4 X, fun X => Ext.cell h 5 X, fun X => Ext.cell h 6 X, fun X => Ext.cell h 7 X, fun X => Ext.cell h 8 X⟩

/-- What holds at each round's head. -/
structure Qd (w : World) (u : Pl) (cs : Array Value) (l : List Pl) (k : Nat) (v : Value) (d : Bool) (out : List Pl) (wr : World) : Prop where
  st : stQ u (l.take k) = (out, d)
  not : u ∉ l.take k
  lst : Lp wr (w.heap.size + 1) v out
  box : Blk wr w.heap.size 32 cs
  below : Below w.heap.size w wr
  size : w.heap.size + 1 ≤ wr.heap.size

section
variable {w : World} {u : Pl} {cs : Array Value} {l : List Pl} {k : Nat} {v : Value} {d : Bool} {out : List Pl} {wr w1 : World}
theorem Qd.later (P : Qd w u cs l k v d out wr) (h : Below wr.heap.size wr w1) : Qd w u cs l k v d out w1 :=
  ⟨P.st, P.not, P.lst.later h, P.box.later h, then_below P.below h, Nat.le_trans P.size h.size⟩
theorem Qd.few' (P : Qd w u cs l k v d out wr) (hl : l.length ≤ 100) : out.length ≤ 1000 := by
  have h := stQ_len u (l.take k) ([], false)
  have e := P.st
  unfold stQ at e
  rw [e] at h
  have h2 : (l.take k).length ≤ l.length := by rw [List.length_take]; omega
  simp at h
  omega
theorem Qd.next (P : Qd w u cs l k v d out wr) {x : Pl} {out' : List Pl} {d' : Bool} {v' : Value} (hk : k < l.length) (hx : l.getD k zP = x) (hne : eqP x u = false) (hs : stepQ u (out, d) x = (out', d')) (hW : Lp w1 (w.heap.size + 1) v' out') (hB : Below (w.heap.size + 1) wr w1) :
    Qd w u cs l (k + 1) v' d' out' w1 := by
  have e : l.take (k + 1) = l.take k ++ [x] := by
    rw [List.take_succ_eq_append_getElem hk, ← hx]
    simp [hk]
  have hne' : x ≠ u := fun e => by rw [e, eqP_self] at hne; cases hne
  refine ⟨by rw [e, stQ_snoc, P.st, hs], ?_, hW, P.box.below hB (by omega), P.below.trans (hB.mono (by omega)), Nat.le_trans P.size hB.size⟩
  rw [e, List.mem_append, List.mem_singleton]
  rintro (h | h)
  · exact P.not h
  · exact hne' h.symm
end

set_option maxRecDepth 100000 in
set_option maxHeartbeats 8000000 in
theorem pputs_calls {l : List Pl} {vl : Value} {base : Nat} {b : Bx} {p q r : Bool} (w : World) (hL : Lp w base vl l) (hb : base ≤ w.heap.size) (hn : l.length ≤ 100) :
    Calls Tryz.prog 31 #[vl, P9 b p q r] w fun e W' => ∃ v, e = .returned v ∧ Lp W' base v (putQ l (b, p, q, r)) ∧ Below w.heap.size w W' := by
  have hmx : Tryz.prog.follows .mixedOrders = true := by kernel_rfl
  obtain ⟨ao, cap, rfl, _⟩ := hL.view
  have hls := fun b1 p1 q1 r1 w => pless_calls b p q r b1 p1 q1 r1 w
  obtain ⟨uu, huu⟩ : ∃ uu : Pl, uu = (b, p, q, r) := ⟨_, rfl⟩
  have HU : Hid (uu = (b, p, q, r)) := huu
  have HF : Hid (uu ∉ l → finQ uu (stQ uu l) = putQ l uu) := fun h => by show _ = putQ l uu; unfold putQ; rw [if_neg (fun e => h (any_in.1 e))]
  have HI : Hid (uu ∈ l → putQ l uu = l) := fun h => by show putQ l uu = l; unfold putQ; rw [if_pos (any_in.2 h)]
  have HL : Hid (Lp w base (.slice ao l.length cap) l) := hL
  rw [← huu]
  generalize putQ l uu = tgt at HF HI ⊢
  clear huu hL
  go_enter Tryz.func31, Tryz.ntmps31
  go_wp2
  go_loopw [5, 6, 7] (fun v dn i wr => ∃ (k : Nat) (d : Bool) (out : List Pl), k ≤ l.length ∧ i = .int .i64 k ∧ dn = .bool d ∧ Qd w uu (C9 b p q r) l k v d out wr) (fun _ _ i _ => l.length - (RowKit.intOf i).toNat)
  case atStart => exact ⟨0, false, [], by omega, rfl, rfl, by simp [stQ], by simp, Lp.nil _ _, Blk.new _ _ _, (Below.refl _ w).alloc (Nat.le_refl _) _, by simp⟩
  case round =>
    obtain ⟨k, d, out, hk, rfl, rfl, P⟩ := hrel
    have hfew : out.length ≤ 100000 := Nat.le_trans (P.few' hn) (by omega)
    by_cases hlt : (k : Int) < (l.length : Int)
    · have hk' : k < l.length := by omega
      obtain ⟨g0, b1, p1, q1, r1, rfl, hu, hat0⟩ := Lp.at HL.out hk'
      have hg0 := hat0.lt
      have hat := hat0.below P.below hg0
      have HU1 : Hid (l.getD k zP = (b1, p1, q1, r1)) := hu
      have hls1 := hls b1 p1 q1 r1
      clear hu hat0 hls
      obtain ⟨e0, e1, e2, e3, e4, e5, e6, e7, e8⟩ := hat.ext
      obtain ⟨f0, f1, f2, f3, f4, f5, f6, f7, f8⟩ := ext9 P.box
      cases hq : eqP (b1, p1, q1, r1) (b, p, q, r)
      · have HQ : Hid (eqP (b1, p1, q1, r1) uu = false) := by show _ = _; rw [HU.out]; exact hq
        have hfew' : out.length ≤ 1000 := P.few' hn
        cases d
        · cases hlt1 : lessP (b, p, q, r) (b1, p1, q1, r1)
          · rw [hlt1] at hls1
            have HS : Hid (stepQ uu (out, false) (b1, p1, q1, r1) = (out ++ [(b1, p1, q1, r1)], false)) := by show _ = _; rw [HU.out]; simp [stepQ, hlt1]
            clear hlt1
            go_wp2
            refine wp_region_look hmx (by kernel_rfl) ?_
            repeat (go_big_quiet_step (fail))
            refine wpQuiet_nil ?_
            intro X
            have P1 := P.later X.le
            have hat1 := hat.later X.le
            clear e0 e1 e2 e3 e4 e5 e6 e7 e8 f0 f1 f2 f3 f4 f5 f6 f7 f8 hat P
            generalize X.wd = w1 at P1 hat1 ⊢
            go_wp2
            obtain ⟨e0, e1, e2, e3, e4, e5, e6, e7, e8⟩ := hat1.ext
            obtain ⟨f0, f1, f2, f3, f4, f5, f6, f7, f8⟩ := ext9 P1.box
            refine wp_region_look hmx (by kernel_rfl) ?_
            repeat (go_big_quiet_step ((go_at_call 59; exact calls_ext (hls1 _))))
            refine wpQuiet_nil ?_
            intro Y
            have P2 := P1.later Y.le
            have hat2 := hat1.later Y.le
            clear e0 e1 e2 e3 e4 e5 e6 e7 e8 f0 f1 f2 f3 f4 f5 f6 f7 f8 hat1 P1
            generalize Y.wd = w2 at P2 hat2 ⊢
            obtain ⟨e0, e1, e2, e3, e4, e5, e6, e7, e8⟩ := hat2.cells
            obtain ⟨⟨f0, f1, f2⟩, ⟨f3, f4, f5⟩, ⟨f6, f7, f8⟩, fz⟩ := P2.box.nine (Below.refl _ _)
            have hz := P2.size
            have hgl := hat2.lt
            go_wp2_with (first
              | (at_builtin; refine wpList_appP (base := w.heap.size + 1) (xs := out) rfl _ _ rfl rfl rfl rfl P2.lst hfew hz ?_; intro ao3 n3 cap3 w3 hW3 hB3)
              | go_in)
            go_roundw
            case rel => exact ⟨k + 1, false, _, by omega, by go_num, rfl, P2.next hk' HU1.out HQ.out HS.out hW3 hB3⟩
            case measure => simp [RowKit.intOf]; omega
          · rw [hlt1] at hls1
            have HS : Hid (stepQ uu (out, false) (b1, p1, q1, r1) = (out ++ [(b, p, q, r)] ++ [(b1, p1, q1, r1)], true)) := by show _ = _; rw [HU.out]; simp [stepQ, hlt1]
            clear hlt1
            go_wp2
            refine wp_region_look hmx (by kernel_rfl) ?_
            repeat (go_big_quiet_step (fail))
            refine wpQuiet_nil ?_
            intro X
            have P1 := P.later X.le
            have hat1 := hat.later X.le
            clear e0 e1 e2 e3 e4 e5 e6 e7 e8 f0 f1 f2 f3 f4 f5 f6 f7 f8 hat P
            generalize X.wd = w1 at P1 hat1 ⊢
            go_wp2
            obtain ⟨e0, e1, e2, e3, e4, e5, e6, e7, e8⟩ := hat1.ext
            obtain ⟨f0, f1, f2, f3, f4, f5, f6, f7, f8⟩ := ext9 P1.box
            refine wp_region_look hmx (by kernel_rfl) ?_
            repeat (go_big_quiet_step ((go_at_call 59; exact calls_ext (hls1 _))))
            refine wpQuiet_nil ?_
            intro Y
            have P2 := P1.later Y.le
            have hat2 := hat1.later Y.le
            clear e0 e1 e2 e3 e4 e5 e6 e7 e8 f0 f1 f2 f3 f4 f5 f6 f7 f8 hat1 P1
            generalize Y.wd = w2 at P2 hat2 ⊢
            obtain ⟨e0, e1, e2, e3, e4, e5, e6, e7, e8⟩ := hat2.cells
            obtain ⟨⟨f0, f1, f2⟩, ⟨f3, f4, f5⟩, ⟨f6, f7, f8⟩, fz⟩ := P2.box.nine (Below.refl _ _)
            have hz := P2.size
            have hgl := hat2.lt
            go_wp2_with (first
              | (at_builtin; refine wpList_appP (base := w.heap.size + 1) (xs := out ++ [(b, p, q, r)]) rfl _ _ rfl rfl rfl rfl hW3 hl3 hz3 ?_; intro ao4 n4 cap4 w4 hW4 hB4)
              | (at_builtin; refine wpList_appP (base := w.heap.size + 1) (xs := out) rfl _ _ rfl rfl rfl rfl P2.lst hfew hz ?_; intro ao3 n3 cap3 w3 hW3 hB3
                 obtain ⟨h0, h1, h2, h3, h4, h5, h6, h7, h8⟩ := (hat2.below hB3 (Nat.lt_succ_of_lt hg0)).cells
                 have hz3 := Nat.le_trans hz hB3.size
                 have hl3 : (out ++ [(b, p, q, r)]).length ≤ 100000 := by simp; omega)
              | go_in)
            go_roundw
            case rel => exact ⟨k + 1, true, _, by omega, by go_num, rfl, P2.next hk' HU1.out HQ.out HS.out hW4 (hB3.trans hB4)⟩
            case measure => simp [RowKit.intOf]; omega
        · have HS : Hid (stepQ uu (out, true) (b1, p1, q1, r1) = (out ++ [(b1, p1, q1, r1)], true)) := rfl
          go_wp2
          refine wp_region_look hmx (by kernel_rfl) ?_
          repeat (go_big_quiet_step (fail))
          refine wpQuiet_nil ?_
          intro X
          have P1 := P.later X.le
          have hat1 := hat.later X.le
          clear e0 e1 e2 e3 e4 e5 e6 e7 e8 f0 f1 f2 f3 f4 f5 f6 f7 f8 hat P
          generalize X.wd = w1 at P1 hat1 ⊢
          go_wp2
          obtain ⟨e0, e1, e2, e3, e4, e5, e6, e7, e8⟩ := hat1.ext
          obtain ⟨f0, f1, f2, f3, f4, f5, f6, f7, f8⟩ := ext9 P1.box
          refine wp_region_look hmx (by kernel_rfl) ?_
          repeat (go_big_quiet_step ((go_at_call 59; exact calls_ext (hls1 _))))
          refine wpQuiet_nil ?_
          intro Y
          have P2 := P1.later Y.le
          have hat2 := hat1.later Y.le
          clear e0 e1 e2 e3 e4 e5 e6 e7 e8 f0 f1 f2 f3 f4 f5 f6 f7 f8 hat1 P1
          generalize Y.wd = w2 at P2 hat2 ⊢
          obtain ⟨e0, e1, e2, e3, e4, e5, e6, e7, e8⟩ := hat2.cells
          obtain ⟨⟨f0, f1, f2⟩, ⟨f3, f4, f5⟩, ⟨f6, f7, f8⟩, fz⟩ := P2.box.nine (Below.refl _ _)
          have hz := P2.size
          have hgl := hat2.lt
          go_wp2_with (first
            | (at_builtin; refine wpList_appP (base := w.heap.size + 1) (xs := out) rfl _ _ rfl rfl rfl rfl P2.lst hfew hz ?_; intro ao3 n3 cap3 w3 hW3 hB3)
            | go_in)
          go_roundw
          case rel => exact ⟨k + 1, true, _, by omega, by go_num, rfl, P2.next hk' HU1.out HQ.out HS.out hW3 hB3⟩
          case measure => simp [RowKit.intOf]; omega
      · have hin : uu ∈ l := by
          have : (b1, p1, q1, r1) = (b, p, q, r) := eqP_iff.1 hq
          rw [HU.out, ← this, ← HU1.out]
          simp [hk']
        obtain rfl := HI.out hin
        clear hin HF
        have hB := P.below
        go_wp2
        refine wp_region_look hmx (by kernel_rfl) ?_
        repeat (go_big_quiet_step (fail))
        refine wpQuiet_nil ?_
        intro X
        go_wp2
        go_ret
        exact ⟨_, rfl, (HL.out.later (then_below hB X.le)), then_below hB X.le⟩
    · obtain rfl : k = l.length := by omega
      have hst := P.st
      have hnot := P.not
      rw [List.take_length] at hst hnot
      have hF := HF.out hnot
      rw [hst] at hF
      clear hst hnot HI HF
      cases d
      · have hF' : out ++ [uu] = tgt := hF
        obtain ⟨⟨f0, f1, f2⟩, ⟨f3, f4, f5⟩, ⟨f6, f7, f8⟩, fz⟩ := P.box.nine (Below.refl _ _)
        have hz := P.size
        have HF2 : Hid (out ++ [(b, p, q, r)] = tgt) := by show _ = _; rw [← HU.out]; exact hF'
        clear hF hF'
        go_wp2_with (first
          | (at_builtin; refine wpList_appP (base := w.heap.size + 1) (xs := out) rfl _ _ rfl rfl rfl rfl P.lst hfew hz ?_; intro ao3 n3 cap3 w3 hW3 hB3)
          | go_in)
        go_ret
        exact ⟨_, rfl, HF2.out ▸ hW3.weak (by omega), P.below.trans (hB3.mono (by omega))⟩
      · have hF' : out = tgt := hF
        subst hF'
        clear hF
        have hW := P.lst.weak (show base ≤ w.heap.size + 1 by omega)
        have hB := P.below
        go_wp2
        go_ret
        exact ⟨_, rfl, hW, hB⟩

end Go.Proofs.YtlahfffgmfjpaaaGreatDoor

/-
  The document's answer for layer 4: which may be, two axes changed.
-/
namespace Go.Proofs.YtlahfffgmfjpaaaGreatDoor
open Go Go.RowKit Go.Shelf

attribute [local go_sem] Oper.semAt_some ext_const eq_ints_at eq_bools_at eq_wants

theorem swap_step {w W : World} {u v : Array Value} {t : TypeId} (b0 : Blk W w.heap.size t u) (b1 : Blk W (w.heap.size + 1) t v) (hB : Below w.heap.size w W) (i j : Nat) (a b : Value) :
    ∃ W1, ((W.setCell ⟨w.heap.size, i, none⟩ a).setCell ⟨w.heap.size, j, none⟩ b).drew = W1 ∧ Blk W1 w.heap.size t ((u.setIfInBounds i a).setIfInBounds j b) ∧ Blk W1 (w.heap.size + 1) t v ∧ Below w.heap.size w W1 :=
  ⟨_, rfl, ((b0.set i a).set j b).drew, ((b1.other i a (by omega)).other j b (by omega)).drew, ((hB.setCell (p := ⟨w.heap.size, i, none⟩) (Nat.le_refl _) a).setCell (p := ⟨w.heap.size, j, none⟩) (Nat.le_refl _) b).drew⟩

set_option maxRecDepth 100000 in
set_option maxHeartbeats 4000000 in
theorem swapped_01 (x y z : Int) (p q r t : Bool) (w : World) :
    Calls Tryz.prog 57 #[V7 x y z p q r t, I 0, I 1] w fun e W' => e = .returned (V7 y x z q p r t) ∧ Below w.heap.size w W' := by
  obtain ⟨W, hW, hBW, b0, b1⟩ := two_start w (cells7 x y z p q r t) (cells7 0 0 0 false false false false) 26 26
  go_enter Tryz.func57, Tryz.ntmps57
  go_wp2
  clear hW
  obtain ⟨s0, s1, s2, s3, s4, s5, s6⟩ := b0.seven
  obtain ⟨f0, f1, f2, f3, f4, f5, f6⟩ := b0.seven_open
  go_region
  clear s0 s1 s2 s3 s4 s5 s6 f0 f1 f2 f3 f4 f5 f6
  obtain ⟨W1, hW1, c0', c1, hB1⟩ := swap_step b0 b1 hBW 0 1 (.int .i64 y) (.int .i64 x)
  have c0 : Blk W1 w.heap.size 26 (cells7 y x z p q r t) := c0'
  rw [hW1]
  clear hW1 b0 b1 hBW c0'
  go_wp2
  obtain ⟨s0, s1, s2, s3, s4, s5, s6⟩ := c0.seven
  obtain ⟨f0, f1, f2, f3, f4, f5, f6⟩ := c0.seven_open
  go_region
  clear s0 s1 s2 s3 s4 s5 s6 f0 f1 f2 f3 f4 f5 f6
  obtain ⟨W2, hW2, d0', d1, hB2⟩ := swap_step c0 c1 hB1 3 4 (.bool q) (.bool p)
  have d0 : Blk W2 w.heap.size 26 (cells7 y x z q p r t) := d0'
  rw [hW2]
  clear hW2 c0 c1 hB1 d0'
  obtain ⟨s0, s1, s2, s3, s4, s5, s6⟩ := d0.seven
  obtain ⟨g0, g1, g2, g3, g4, g5, g6⟩ := d1.seven
  obtain ⟨f0, f1, f2, f3, f4, f5, f6⟩ := d1.seven_open
  go_wp2
  obtain ⟨j0, j1, j2, j3, j4, j5, j6⟩ := (d1.set7 (.int .i64 y) (.int .i64 x) (.int .i64 z) (.bool q) (.bool p) (.bool r) (.bool t)).seven
  exact bodyPost_ret (v := V7 y x z q p r t) (by simp [results, Tryz.f57, go_sem, j0, j1, j2, j3, j4, j5, j6]) rfl ⟨rfl, below_set7 hB2 (by omega) _ _ _ _ _ _ _⟩

set_option maxRecDepth 100000 in
set_option maxHeartbeats 4000000 in
theorem swapped_02 (x y z : Int) (p q r t : Bool) (w : World) :
    Calls Tryz.prog 57 #[V7 x y z p q r t, I 0, I 2] w fun e W' => e = .returned (V7 z y x r q p t) ∧ Below w.heap.size w W' := by
  obtain ⟨W, hW, hBW, b0, b1⟩ := two_start w (cells7 x y z p q r t) (cells7 0 0 0 false false false false) 26 26
  go_enter Tryz.func57, Tryz.ntmps57
  go_wp2
  clear hW
  obtain ⟨s0, s1, s2, s3, s4, s5, s6⟩ := b0.seven
  obtain ⟨f0, f1, f2, f3, f4, f5, f6⟩ := b0.seven_open
  go_region
  clear s0 s1 s2 s3 s4 s5 s6 f0 f1 f2 f3 f4 f5 f6
  obtain ⟨W1, hW1, c0', c1, hB1⟩ := swap_step b0 b1 hBW 0 2 (.int .i64 z) (.int .i64 x)
  have c0 : Blk W1 w.heap.size 26 (cells7 z y x p q r t) := c0'
  rw [hW1]
  clear hW1 b0 b1 hBW c0'
  go_wp2
  obtain ⟨s0, s1, s2, s3, s4, s5, s6⟩ := c0.seven
  obtain ⟨f0, f1, f2, f3, f4, f5, f6⟩ := c0.seven_open
  go_region
  clear s0 s1 s2 s3 s4 s5 s6 f0 f1 f2 f3 f4 f5 f6
  obtain ⟨W2, hW2, d0', d1, hB2⟩ := swap_step c0 c1 hB1 3 5 (.bool r) (.bool p)
  have d0 : Blk W2 w.heap.size 26 (cells7 z y x r q p t) := d0'
  rw [hW2]
  clear hW2 c0 c1 hB1 d0'
  obtain ⟨s0, s1, s2, s3, s4, s5, s6⟩ := d0.seven
  obtain ⟨g0, g1, g2, g3, g4, g5, g6⟩ := d1.seven
  obtain ⟨f0, f1, f2, f3, f4, f5, f6⟩ := d1.seven_open
  go_wp2
  obtain ⟨j0, j1, j2, j3, j4, j5, j6⟩ := (d1.set7 (.int .i64 z) (.int .i64 y) (.int .i64 x) (.bool r) (.bool q) (.bool p) (.bool t)).seven
  exact bodyPost_ret (v := V7 z y x r q p t) (by simp [results, Tryz.f57, go_sem, j0, j1, j2, j3, j4, j5, j6]) rfl ⟨rfl, below_set7 hB2 (by omega) _ _ _ _ _ _ _⟩

set_option maxRecDepth 100000 in
set_option maxHeartbeats 4000000 in
theorem swapped_12 (x y z : Int) (p q r t : Bool) (w : World) :
    Calls Tryz.prog 57 #[V7 x y z p q r t, I 1, I 2] w fun e W' => e = .returned (V7 x z y p r q t) ∧ Below w.heap.size w W' := by
  obtain ⟨W, hW, hBW, b0, b1⟩ := two_start w (cells7 x y z p q r t) (cells7 0 0 0 false false false false) 26 26
  go_enter Tryz.func57, Tryz.ntmps57
  go_wp2
  clear hW
  obtain ⟨s0, s1, s2, s3, s4, s5, s6⟩ := b0.seven
  obtain ⟨f0, f1, f2, f3, f4, f5, f6⟩ := b0.seven_open
  go_region
  clear s0 s1 s2 s3 s4 s5 s6 f0 f1 f2 f3 f4 f5 f6
  obtain ⟨W1, hW1, c0', c1, hB1⟩ := swap_step b0 b1 hBW 1 2 (.int .i64 z) (.int .i64 y)
  have c0 : Blk W1 w.heap.size 26 (cells7 x z y p q r t) := c0'
  rw [hW1]
  clear hW1 b0 b1 hBW c0'
  go_wp2
  obtain ⟨s0, s1, s2, s3, s4, s5, s6⟩ := c0.seven
  obtain ⟨f0, f1, f2, f3, f4, f5, f6⟩ := c0.seven_open
  go_region
  clear s0 s1 s2 s3 s4 s5 s6 f0 f1 f2 f3 f4 f5 f6
  obtain ⟨W2, hW2, d0', d1, hB2⟩ := swap_step c0 c1 hB1 4 5 (.bool r) (.bool q)
  have d0 : Blk W2 w.heap.size 26 (cells7 x z y p r q t) := d0'
  rw [hW2]
  clear hW2 c0 c1 hB1 d0'
  obtain ⟨s0, s1, s2, s3, s4, s5, s6⟩ := d0.seven
  obtain ⟨g0, g1, g2, g3, g4, g5, g6⟩ := d1.seven
  obtain ⟨f0, f1, f2, f3, f4, f5, f6⟩ := d1.seven_open
  go_wp2
  obtain ⟨j0, j1, j2, j3, j4, j5, j6⟩ := (d1.set7 (.int .i64 x) (.int .i64 z) (.int .i64 y) (.bool p) (.bool r) (.bool q) (.bool t)).seven
  exact bodyPost_ret (v := V7 x z y p r q t) (by simp [results, Tryz.f57, go_sem, j0, j1, j2, j3, j4, j5, j6]) rfl ⟨rfl, below_set7 hB2 (by omega) _ _ _ _ _ _ _⟩

set_option maxRecDepth 100000 in
set_option maxHeartbeats 1000000 in
theorem wmay_calls (x y z : Int) (p q r t : Bool) (w : World) :
    Calls Tryz.prog 51 #[V7 x y z p q r t] w fun e W' => ((mayD x y z ∧ e = .returned (.bool true)) ∨ (¬ mayD x y z ∧ e = .returned (.bool false))) ∧ Below w.heap.size w W' := by
  go_enter Tryz.func51, Tryz.ntmps51
  go_wp2
  go_loop [3] (fun i => i = .int .i64 0 ∨ (i = .int .i64 1 ∧ okD x) ∨ (i = .int .i64 2 ∧ okD x ∧ okD y) ∨ (i = .int .i64 3 ∧ mayD x y z)) (fun i => 3 - (RowKit.intOf i).toNat)
  case atStart => exact .inl rfl
  case round =>
    have hB : Below w.heap.size w (w.alloc (.cells (cells7 x y z p q r t) 26)) := (Below.refl _ w).alloc (Nat.le_refl _) _
    rcases hrel with rfl | ⟨rfl, h0⟩ | ⟨rfl, h0, h1⟩ | ⟨rfl, hm⟩
    · by_cases hl : x < 1
      · go_wp2
        go_ret
        exact ⟨.inr ⟨fun h => by have := h.1; unfold okD at this; omega, rfl⟩, hB⟩
      · by_cases hg : 16 < x
        · go_wp2
          go_ret
          exact ⟨.inr ⟨fun h => by have := h.1; unfold okD at this; omega, rfl⟩, hB⟩
        · go_wp2
          go_round
          case rel => exact .inr (.inl ⟨rfl, by unfold okD; omega⟩)
          case measure => simp [RowKit.intOf]
    · by_cases hl : y < 1
      · go_wp2
        go_ret
        exact ⟨.inr ⟨fun h => by have := h.2.1; unfold okD at this; omega, rfl⟩, hB⟩
      · by_cases hg : 16 < y
        · go_wp2
          go_ret
          exact ⟨.inr ⟨fun h => by have := h.2.1; unfold okD at this; omega, rfl⟩, hB⟩
        · go_wp2
          go_round
          case rel => exact .inr (.inr (.inl ⟨rfl, h0, by unfold okD; omega⟩))
          case measure => simp [RowKit.intOf]
    · by_cases hl : z < 1
      · go_wp2
        go_ret
        exact ⟨.inr ⟨fun h => by have := h.2.2; unfold okD at this; omega, rfl⟩, hB⟩
      · by_cases hg : 16 < z
        · go_wp2
          go_ret
          exact ⟨.inr ⟨fun h => by have := h.2.2; unfold okD at this; omega, rfl⟩, hB⟩
        · go_wp2
          go_round
          case rel => exact .inr (.inr (.inr ⟨rfl, h0, h1, by unfold okD; omega⟩))
          case measure => simp [RowKit.intOf]
    · go_wp2
      go_ret
      first | exact ⟨rfl, hB⟩ | exact ⟨.inl ⟨hm, rfl⟩, hB⟩
theorem wmay_yes {x y z : Int} {p q r t : Bool} (w : World) (h : mayD x y z) : Calls Tryz.prog 51 #[V7 x y z p q r t] w fun e W' => e = .returned (.bool true) ∧ Below w.heap.size w W' := by
  refine (wmay_calls x y z p q r t w).mono ?_
  rintro e W' ⟨⟨_, he⟩ | ⟨k, _⟩, hB⟩
  · exact ⟨he, hB⟩
  · exact absurd h k
theorem wmay_no {x y z : Int} {p q r t : Bool} (w : World) (h : ¬ mayD x y z) : Calls Tryz.prog 51 #[V7 x y z p q r t] w fun e W' => e = .returned (.bool false) ∧ Below w.heap.size w W' := by
  refine (wmay_calls x y z p q r t w).mono ?_
  rintro e W' ⟨⟨k, _⟩ | ⟨_, he⟩, hB⟩
  · exact absurd k h
  · exact ⟨he, hB⟩
end Go.Proofs.YtlahfffgmfjpaaaGreatDoor

/-
  A place is free of what is busy through a span, just if none of what it takes is.
-/
import Derived.Test.YtldcagjnngkabaaGreatDoorPart30
import Derived.Test.YtldcagjnngkabaaGreatDoorLawFreeNames
import Derived.Test.YtldcagjnngkabaaGreatDoorPart9
import Derived.Laws.AppendOwn
import Derived.Laws.AppendOwnNone
import Derived.Test.YtldcagjnngkabaaGreatDoorPart27
import Derived.ChangeSlices
import Derived.Test.YtldcagjnngkabaaGreatDoorPart23
import Derived.ChangeSame
import Derived.ChangeArms
import Derived.Test.YtldcagjnngkabaaGreatDoorPart10
import Derived.Test.YtldcagjnngkabaaGreatDoorRows
import Derived.ProofKit
import Derived.LaidMore
import Derived.OpenShut
import Derived.Stop.Joined
import Derived.Lib.LaidTab
import Derived.SevenTiedAt
namespace Go.Proofs.YtldcagjnngkabaaGreatDoor
open Go Go.RowKit Go.Shelf

theorem well_free {a b c : Int} {ns ls : List (List Slt)} (hm : mayY a b c ns ls) (bx : Bx) (t0 t1 t2 : Bool) {f t : Int} (h : f < t) :
    wellB a b c bx t0 t1 t2 (setOf ns.length (busyP ns f t)) (setOf ls.length (busyP ls f t)) = freeP ns ls (midP a b c bx) (cabP a b c bx t0 t1 t2) f t := by
  obtain ⟨h1, h2, h3⟩ := hm.bd
  have hn : (a * b * c).toNat = ns.length := by rw [← hm.2.1]; simp
  refine bool_ext ?_
  unfold wellB
  rw [hn, ← h3, Bool.and_eq_true, offW_iff, offW_iff, freeP_iff hm.2.2.2.1 hm.2.2.2.2 h]
  have key : ∀ (cs : List (List Slt)) (p : Nat → Bool), maysC cs = true → ((∀ k, k < cs.length → p k = true → hasW (setOf cs.length (busyP cs f t)) k = false) ↔ ∀ k, p k = true → busyP cs f t k = false) := fun cs p hc => by
    constructor
    · intro q k hp
      by_cases hk : k < cs.length
      · have := q k hk hp
        rw [(setOf_is cs.length (busyP cs f t)).has] at this
        simpa [hk] using this
      · exact busy_out hc h hk
    · intro q k hk hp
      rw [(setOf_is cs.length (busyP cs f t)).has, q k hp]
      simp
  rw [key ns _ hm.2.2.2.1, key ls _ hm.2.2.2.2]

end Go.Proofs.YtldcagjnngkabaaGreatDoor

/-
  The statements of layer 11: at: whether a place is free from a moment on, so long.
-/
namespace Go.Proofs.YtldcagjnngkabaaGreatDoor
open Go Go.RowKit Go.Shelf

attribute [local go_sem] Oper.semAt_some ext_const

/-- A set that may be, with more that is asked: no number that is asked for is in either. -/
theorem off_or (n : Nat) (p q : Nat → Bool) (ws : List Nat) : offW n p (setOf n (fun k => q k || hasW ws k)) = (offW n p (setOf n q) && offW n p ws) := by
  refine bool_ext ?_
  rw [Bool.and_eq_true, offW_iff, offW_iff, offW_iff]
  constructor
  · intro h
    refine ⟨fun k hk hp => ?_, fun k hk hp => ?_⟩
    · have := h k hk hp
      rw [(setOf_is n _).has] at this ⊢
      simp [hk] at this ⊢
      exact this.1
    · have := h k hk hp
      rw [(setOf_is n _).has] at this
      simp [hk] at this
      exact this.2
  · rintro ⟨h, g⟩ k hk hp
    have h3 := h k hk hp
    have h4 := g k hk hp
    rw [(setOf_is n _).has] at h3 ⊢
    simp [hk] at h3 ⊢
    exact ⟨h3, h4⟩
theorem may_setOf {n : Nat} (h1 : 1 ≤ n) (h2 : n ≤ 4096) (p q : Nat → Bool) : mayW n (setOf n p) (setOf (3 * n : Nat) q) = true := by
  have e1 := errAll_one h1 (by omega) (setOf n p)
  have e2 := errAll_one (n := 3 * n) (by omega) (by omega) (setOf (3 * n : Nat) q)
  rw [setOf_err (by omega) (by omega)] at e1 e2
  unfold mayW
  cases q1 : maySet n (setOf n p)
  · rw [q1] at e1; cases e1
  · cases q2 : maySet (3 * n) (setOf (3 * n : Nat) q)
    · rw [q2] at e2; cases e2
    · rfl

/-- What at comes to, where all may be: free of what is busy, and of what is bad. -/
theorem hold_busy {a b c : Int} {ns ls : List (List Slt)} {mw lw : List Nat} (hm : mayY a b c ns ls) {bx : Bx} {t0 t1 t2 : Bool} (hp : errP a b c bx t0 t1 t2 = 0) {f t : Int} (h : f < t) :
    hoE a b c bx t0 t1 t2 (setOf ns.length (fun k => busyP ns f t k || hasW mw k)) (setOf ls.length (fun k => busyP ls f t k || hasW lw k)) = 0 ∧
    hoB a b c bx t0 t1 t2 (setOf ns.length (fun k => busyP ns f t k || hasW mw k)) (setOf ls.length (fun k => busyP ls f t k || hasW lw k)) = (freeP ns ls (midP a b c bx) (cabP a b c bx t0 t1 t2) f t && wellB a b c bx t0 t1 t2 mw lw) := by
  obtain ⟨h1, h2, h3⟩ := hm.bd
  have hn : (a * b * c).toNat = ns.length := by rw [← hm.2.1]; simp
  have e0 : hoE a b c bx t0 t1 t2 (setOf ns.length (fun k => busyP ns f t k || hasW mw k)) (setOf ls.length (fun k => busyP ls f t k || hasW lw k)) = 0 := by
    rw [hoE, if_pos hp, hn, h3, may_setOf h1 h2]; rfl
  refine ⟨e0, ?_⟩
  rw [hoB, e0, decide_eq_true rfl, Bool.true_and, ← well_free hm bx t0 t1 t2 h]
  unfold wellB
  rw [hn, h3]
  rw [off_or, off_or]
  cases offW ns.length (midP a b c bx) (setOf ns.length (busyP ns f t)) <;> cases offW (3 * ns.length) (cabP a b c bx t0 t1 t2) (setOf (3 * ns.length : Nat) (busyP ls f t)) <;> cases offW ns.length (midP a b c bx) mw <;> rfl

set_option maxRecDepth 100000 in
set_option maxHeartbeats 8000000 in
theorem at11_calls {a b c f long : Int} {n l vm vl : Value} {ns ls : List (List Slt)} {mw lw : List Nat} {bx : Bx} {t0 t1 t2 : Bool} (w : World) (hN : Yl w n ns) (hL : Yl w l ls) (hM : Wds w vm mw) (hK : Wds w vl lw) (hm : mayY a b c ns ls) (hp : errP a b c bx t0 t1 t2 = 0) (hw : mayW ns.length mw lw = true) (h0 : 0 ≤ f) (hl : 1 ≤ long) (hM2 : f + long ≤ 1099511627776) :
    Calls Tryz.prog 21 #[Y5 a b c n l, P9 bx t0 t1 t2, vm, vl, I f, I long] w fun e W' => e = .returned (.bool (freeP ns ls (midP a b c bx) (cabP a b c bx t0 t1 t2) f (f + long) && wellB a b c bx t0 t1 t2 mw lw)) ∧ Below w.heap.size w W' := by
  obtain ⟨z1, z2⟩ := hold_busy (mw := mw) (lw := lw) hm hp (show f < f + long by omega)
  rw [← z2]
  have hsp : maySp f (f + long) := ⟨h0, by omega, hM2⟩
  have eA : avE a b c ns ls mw lw f (f + long) = 0 := by
    rw [avE, busyE, if_pos (mayYB_iff.2 hm), if_pos ((maySpB_iff _ _).2 hsp), if_pos rfl, hw]; rfl
  obtain ⟨W, hW, hB0, k0, k1⟩ := two_start w (K5 a b c n l) (C9 bx t0 t1 t2) 26 43
  have HW : Hid ((w.alloc (.cells (K5 a b c n l) 26)).alloc (.cells (C9 bx t0 t1 t2) 43) = W) := hW
  have HA : Hid (Calls Tryz.prog 9 #[Y5 a b c n l, vm, vl, S2 f (f + long)] W fun e W' => ∃ u v, e = .returned (.tuple #[u, v, I 0]) ∧ SetR W' W.heap.size u (setOf ns.length (fun k => busyP ns f (f + long) k || hasW mw k)) ∧ SetR W' W.heap.size v (setOf ls.length (fun k => busyP ls f (f + long) k || hasW lw k)) ∧ Below W.heap.size W W') := by
    have := avoid_calls (a := a) (b := b) (c := c) (x := f) (y := f + long) W (hN.later hB0) (hL.later hB0) (hM.later hB0) (hK.later hB0)
    rw [eA] at this
    exact this
  have HH : Hid (∀ w' u v, Wds w' u (setOf ns.length (fun k => busyP ns f (f + long) k || hasW mw k)) → Wds w' v (setOf ls.length (fun k => busyP ls f (f + long) k || hasW lw k)) → Calls Tryz.prog 12 #[A3 a b c, P9 bx t0 t1 t2, u, v] w' fun e W' => e = .returned (.tuple #[.bool (hoB a b c bx t0 t1 t2 (setOf ns.length (fun k => busyP ns f (f + long) k || hasW mw k)) (setOf ls.length (fun k => busyP ls f (f + long) k || hasW lw k))), I 0]) ∧ Below w'.heap.size w' W') := fun w' u v q1 q2 => by
    have := holds_calls (a := a) (b := b) (c := c) (bx := bx) t0 t1 t2 w' q1 q2
    rw [z1] at this
    exact this
  have hwr : wrap64 (f + long) = f + long := wrap_in _ (by omega)
  obtain ⟨_, _, rfl, _⟩ := hN.form
  obtain ⟨_, _, rfl, _⟩ := hL.form
  obtain ⟨_, _, _, rfl⟩ := hM.form
  obtain ⟨_, _, _, rfl⟩ := hK.form
  clear z1 z2 eA hsp hW hN hL hM hK hm hp hw h0 hl hM2
  generalize hoB a b c bx t0 t1 t2 (setOf ns.length (fun k => busyP ns f (f + long) k || hasW mw k)) (setOf ls.length (fun k => busyP ls f (f + long) k || hasW lw k)) = r at *
  generalize setOf ns.length (fun k => busyP ns f (f + long) k || hasW mw k) = S1 at *
  generalize setOf ls.length (fun k => busyP ls f (f + long) k || hasW lw k) = S2' at *
  generalize ns.length = n1 at *
  generalize ls.length = n2 at *
  obtain ⟨p0, p1, p2, p3, p4, hz⟩ := k0.five
  go_enter Tryz.func21, Tryz.ntmps21
  go_wp2_with fail
  rw [HW.out]
  refine HA.out.mono ?_
  rintro e w1 ⟨u, v, rfl, hu, hv, hT⟩
  have HU : Hid (Wds w1 u S1) := hu.wds
  have HV : Hid (Wds w1 v S2') := hv.wds
  clear hu hv p0 p1 p2 p3 p4 hz
  obtain ⟨p0, p1, p2, p3, p4, hz⟩ := k0.yard hT
  obtain ⟨⟨x0, x1, x2⟩, ⟨x3, x4, x5⟩, ⟨x6, x7, x8⟩, hz1⟩ := k1.nine hT
  go_wp2_with fail
  refine (HH.out _ _ _ HU.out HV.out).mono ?_
  rintro e w2 ⟨rfl, hT2⟩
  clear p0 p1 p2 p3 p4 hz x0 x1 x2 x3 x4 x5 x6 x7 x8 hz1
  go_wp2
  go_ret
  exact ⟨rfl, then_below hB0 (then_below hT hT2)⟩

end Go.Proofs.YtldcagjnngkabaaGreatDoor

/-
  Sets of two below a bound, and what is asked for of them.
-/
namespace Go.Proofs.YtldcagjnngkabaaGreatDoor
open Go Go.RowKit Go.Shelf

/-- Sets of two, below a bound that may be. -/
theorem join_is {n : Nat} {op : Nat → Nat → Nat} {g : Bool → Bool → Bool} {a b : List Nat} (hj : IsSet ((n + 63) / 64) (joinW op n a b) (fun j => g (hasW a j) (hasW b j))) (hg : g false false = false) (ha : maySet n a = true) (hb : maySet n b = true) : maySet n (joinW op n a b) = true :=
  mayS_iff.2 ⟨hj.len, fun k hk => by rw [hj.has, (mayS_iff.1 ha).2 k hk, (mayS_iff.1 hb).2 k hk]; exact hg⟩
theorem less_facts {n : Nat} (h1 : 1 ≤ n) (h2 : n ≤ 12288) {a b : List Nat} (wa : ∀ x ∈ a, x < 18446744073709551616) (wb : ∀ x ∈ b, x < 18446744073709551616) (ha : maySet n a = true) (hb : maySet n b = true) (p : Nat → Bool) :
    (maySet n (joinW orW n a b) = true ∧ offW n p (joinW orW n a b) = (offW n p a && offW n p b)) ∧ (maySet n (joinW notW n a b) = true ∧ (offW n p a = true → offW n p (joinW notW n a b) = true)) := by
  have e1 := errAll_one h1 h2 a
  have e2 := errAll_one h1 h2 b
  rw [ha] at e1
  rw [hb] at e2
  have T := three_of wa wb (errAll_both e1 e2)
  have i2 := T.i2
  have i3 := T.i3
  rw [Int.toNat_natCast] at i2 i3
  refine ⟨⟨join_is i2 rfl ha hb, ?_⟩, ⟨join_is (g := fun x y => x && !y) i3 rfl ha hb, fun h => ?_⟩⟩
  · refine bool_ext ?_
    rw [Bool.and_eq_true, offW_iff, offW_iff, offW_iff]
    constructor
    · intro h
      refine ⟨fun k hk hp => ?_, fun k hk hp => ?_⟩
      · have := h k hk hp
        rw [i2.has] at this
        exact (Bool.or_eq_false_iff.1 this).1
      · have := h k hk hp
        rw [i2.has] at this
        exact (Bool.or_eq_false_iff.1 this).2
    · rintro ⟨h, g⟩ k hk hp
      rw [i2.has, h k hk hp, g k hk hp]; rfl
  · refine offW_iff.2 fun k hk hp => ?_
    rw [i3.has, offW_iff.1 h k hk hp, Bool.false_and]

end Go.Proofs.YtldcagjnngkabaaGreatDoor

/-
  A set among the arguments: as it came in, and a copy of it.
-/
namespace Go.Proofs.YtldcagjnngkabaaGreatDoor
open Go Go.RowKit Go.Shelf

/-- A row of words that came in. -/
def ArgW (W : World) (v : Value) (ws : List Nat) : Prop := Wds W v ws ∧ (v = .slice none 0 0 ∨ ∃ ad cap, v = .slice (some ad) ws.length cap)
def ArgI (W : World) (v : Value) (xs : List Int) : Prop := Its W v xs ∧ (v = .slice none 0 0 ∨ ∃ ad cap, v = .slice (some ad) xs.length cap)

theorem owns_wds {W : World} {base : Nat} {v : Value} {ws : List Nat} (hw : ∀ x ∈ ws, x < 18446744073709551616) (h : W.ownsRow base 34 1 v ws.length (ws.map U)) : Wds W v ws := by
  obtain ⟨h1, h2⟩ := h
  refine ⟨hw, ?_⟩
  rcases h2 with ⟨rfl, hn⟩ | ⟨g, cap, cur, rfl, hg, hh, hc, hc2, hs, ht⟩
  · have : ws = [] := List.length_eq_zero_iff.1 hn
    subst this
    exact Sl.nil W
  · refine ⟨_, cap, by simp, fun k hk => ⟨g, 0, rfl, (Array.getElem?_eq_some_iff.1 hh).1, ?_⟩⟩
    have hb : Blk W g 34 cur := hh
    rw [Nat.zero_add, hb.cell k]
    have := congrArg (fun l => l[k]?) ht
    simp only [Nat.mul_one] at this
    rw [List.length_map] at hk
    rw [List.getElem?_take_of_lt hk, Array.getElem?_toList] at this
    exact this

/-- 'own = append(own, s...)', own nil. -/
theorem wpList_copy {ops : Array Oper} {rest : List Oper} {o : Oper} {a : Act} {Q : Exit → Act → World → Prop} {W : World} {v : Value} {ws : List Nat} (hgd : o.guard = none) (s x : Operand)
    (ho : o.op = .call { callee := .builtin .append, args := #[s, x], argTypes := #[30, 30] }) (hs : a.eval s = .slice none 0 0) (hx : a.eval x = v)
    (hA : ArgW W v ws) (hl : ws.length ≤ 1000)
    (h : ∀ v' w', Wds w' v' ws → Below W.heap.size W w' → wpList Tryz.prog ops Q rest (a.put o.dst v') w') : wpList Tryz.prog ops Q (o :: rest) a W := by
  obtain ⟨i0, hi, hz0, hz1, hz2⟩ := info_parts info_u64
  obtain ⟨hW, rfl | ⟨ad, cap, rfl⟩⟩ := hA
  · have e : ws = [] := by
      obtain ⟨ao, c, e, _⟩ := hW.view
      simp only [Value.slice.injEq] at e
      exact List.length_eq_zero_iff.1 e.2.1.symm
    subst e
    exact wpList_append_own_none hgd s x 30 ho W.heap.size 34 i0 1 Tryz.underlying30 hi (.slice none 0 0) 0 [] hs (World.ownsRow_nil _ _ _ _) hx (h _ _ (Wds.nil W) (Below.refl _ _))
  · refine wpList_append_own (w := W) hgd s x 30 ho W.heap.size 34 i0 (.int .u64 0) 1 8 Tryz.underlying30 hi hz0 hz1 hz2 rfl (by decide) (.slice none 0 0) 0 [] hs (World.ownsRow_nil _ _ _ _) ad ws.length cap (ws.map U) hx (by simp) ?_ ?_ ?_ ?_ ?_ ?_
    · intro j u hj
      obtain ⟨ao, c, e, hv⟩ := hW.view
      simp only [Value.slice.injEq] at e
      obtain ⟨rfl, -, -⟩ := e
      have hjl : j < ws.length := by
        have := (List.getElem?_eq_some_iff.1 hj).1
        simpa using this
      obtain ⟨g, off, e, hg, hc⟩ := hv j hjl
      simp only [Option.some.injEq] at e
      subst e
      have : (⟨g, off, none⟩ : Addr).add j = ⟨g, off + j, none⟩ := by
        unfold Addr.add
        split
        · rename_i h0; subst h0; rfl
        · rfl
      rw [this, hc, ← hj]
      simp [hjl]
    · intro u hu
      obtain ⟨y, _, rfl⟩ := List.mem_map.1 hu
      rfl
    · unfold maxLen; omega
    · omega
    · omega
    · intro v' w1 hown' hgrow _
      refine h v' w1 (owns_wds hW.1 (by simpa using hown')) ?_
      exact (Below.refl _ W).grown hgrow (Nat.le_refl _) (fun k hk => by cases hk)

end Go.Proofs.YtldcagjnngkabaaGreatDoor

/-
  How a set, and a list of whole numbers, among a statement's arguments is opened.
-/
namespace Go.Proofs.YtldcagjnngkabaaGreatDoor
open Go Go.ChangeShapes Go.WideShapes Go.ChangeAt Go.RowKit

theorem spot_none {w : World} {a : Addr} {v : Value} (h : w.cell? a = some v) : a.spot = none := by
  unfold World.cell? at h
  split at h
  · split at h
    · cases h
    · rename_i hs
      cases hq : a.spot
      · rfl
      · rw [hq] at hs; exact absurd rfl hs
  · cases h
theorem block_lt {w : World} {a : Addr} {v : Value} (h : w.cell? a = some v) : a.block < w.heap.size := by
  unfold World.cell? at h
  split at h
  · rename_i hs
    exact (Array.getElem?_eq_some_iff.1 hs).1
  · cases h

set_option maxRecDepth 100000 in
/-- A slice of numbers of one kind, as it came in. -/
theorem open_row_of {P : Program} {w : World} {H : Type} {enc : TypeId × Value → H} {r : Reach} {b0 base : Nat} {spare : Nat → Bool} {held : Bool} {t e : TypeId} {k : IntKind} {v : Value} {d : DataW H} {p : List MemPlace}
    (ht : P.underlying t = some (.slice e)) (he : P.underlying e = some (.int k)) (hc : P.cellsOf e = 1)
    (hv : Value.okWide P w r b0 t v) (h : DataW.Trod enc P w base spare held t v d p) :
    ∃ zs : List Int, (∀ z ∈ zs, (Lit.int k z).wf = true) ∧ Sl w v (zs.map (Value.int k)) ∧ (v = .slice none 0 0 ∧ zs = [] ∨ ∃ ad cap, v = .slice (some ad) zs.length cap) := by
  obtain ⟨a, len, cap, rfl⟩ := okWide_slice ht hv
  obtain ⟨fuel, hf⟩ := h
  rcases open_ints ht he hc hf with ⟨hcs, -⟩ | ⟨a0, len0, cap0, zs, hcs, _, hl, _, hz, _, hcell, hwf⟩
  · have e0 : Value.slice a len cap = .slice none 0 0 := by
      have : [Value.slice a len cap] = [.slice none 0 0] := hcs
      exact List.head_eq_of_cons_eq this
    rw [e0]
    exact ⟨[], fun _ h => (by cases h), Sl.nil w, .inl ⟨rfl, rfl⟩⟩
  · have e0 : Value.slice a len cap = .slice (some a0) len0 cap0 := by
      have : [Value.slice a len cap] = [.slice (some a0) len0 cap0] := hcs
      exact List.head_eq_of_cons_eq this
    rw [e0]
    have hlz : len0 ≤ zs.length := by rw [hz]; split <;> omega
    have hlt : (zs.take len0).length = len0 := by simp [hlz]
    refine ⟨zs.take len0, fun z hz' => hwf z (List.mem_of_mem_take hz'), ⟨some a0, cap0, by simp [hlz], fun i hi => ?_⟩, .inr ⟨a0, cap0, by rw [hlt]⟩⟩
    rw [List.length_map, hlt] at hi
    have hi2 : i < zs.length := by omega
    have c0 := hcell i hi2
    have cc := hcell 0 (by omega)
    obtain ⟨g, off, sp⟩ := a0
    have hs : sp = none := by
      have := spot_none cc
      simpa [Addr.add] using this
    subst hs
    have ea : (⟨g, off, none⟩ : Addr).add i = ⟨g, off + i, none⟩ := by
      unfold Addr.add
      split
      · rename_i h0; subst h0; rfl
      · rfl
    rw [ea] at c0
    exact ⟨g, off, rfl, block_lt c0, by rw [c0]; simp [hi, hi2]⟩

theorem word_of {z : Int} (h : (Lit.int .u64 z).wf = true) : 0 ≤ z ∧ z < 18446744073709551616 := by
  unfold Lit.wf at h
  simp [IntKind.min, IntKind.max, IntKind.signed, IntKind.bits] at h
  omega

set_option maxRecDepth 100000 in
theorem open_set {w : World} {H : Type} {enc : TypeId × Value → H} {r : Reach} {b0 base : Nat} {spare : Nat → Bool} {held : Bool} {v : Value} {d : DataW H} {p : List MemPlace}
    (hv : Value.okWide Tryz.prog w r b0 30 v) (h : DataW.Trod enc Tryz.prog w base spare held 30 v d p) : ∃ ws : List Nat, ArgW w v ws := by
  obtain ⟨zs, hw, hs, hc⟩ := open_row_of Tryz.underlying30 Tryz.underlying34 (by kernel_rfl) hv h
  have e : (zs.map Int.toNat).map U = zs.map (Value.int .u64) := by
    rw [List.map_map]
    apply List.map_congr_left
    intro z hz
    have := word_of (hw z hz)
    show Value.int .u64 ((z.toNat : Nat) : Int) = _
    rw [Int.toNat_of_nonneg this.1]
  refine ⟨zs.map Int.toNat, ⟨fun x hx => ?_, by rw [e]; exact hs⟩, ?_⟩
  · obtain ⟨z, hz, rfl⟩ := List.mem_map.1 hx
    have := word_of (hw z hz)
    omega
  · rcases hc with ⟨rfl, _⟩ | ⟨ad, cap, rfl⟩
    · exact .inl rfl
    · exact .inr ⟨ad, cap, by simp⟩

set_option maxRecDepth 100000 in
theorem open_list {w : World} {H : Type} {enc : TypeId × Value → H} {r : Reach} {b0 base : Nat} {spare : Nat → Bool} {held : Bool} {v : Value} {d : DataW H} {p : List MemPlace}
    (hv : Value.okWide Tryz.prog w r b0 76 v) (h : DataW.Trod enc Tryz.prog w base spare held 76 v d p) : ∃ xs : List Int, ArgI w v xs ∧ ∀ x ∈ xs, (Lit.int .i64 x).wf = true := by
  obtain ⟨zs, hw, hs, hc⟩ := open_row_of Tryz.underlying76 Tryz.underlying3 (by kernel_rfl) hv h
  refine ⟨zs, ⟨hs, ?_⟩, hw⟩
  rcases hc with ⟨rfl, _⟩ | h
  · exact .inl rfl
  · exact .inr h

end Go.Proofs.YtldcagjnngkabaaGreatDoor

/-
  FreeLess: the walk.
-/
namespace Go.Proofs.YtldcagjnngkabaaGreatDoor
open Go Go.RowKit Go.Shelf

attribute [local go_sem] Oper.semAt_some ext_const

theorem ho_zero {a b c : Int} {bx : Bx} {t0 t1 t2 : Bool} {mw lw : List Nat} (h : hoE a b c bx t0 t1 t2 mw lw = 0) : errP a b c bx t0 t1 t2 = 0 ∧ mayW (a * b * c).toNat mw lw = true ∧ hoB a b c bx t0 t1 t2 mw lw = wellB a b c bx t0 t1 t2 mw lw := by
  have hp : errP a b c bx t0 t1 t2 = 0 := by
    by_cases hp : errP a b c bx t0 t1 t2 = 0
    · exact hp
    · rw [hoE, if_neg hp] at h; exact h
  refine ⟨hp, ?_, by rw [hoB, h, decide_eq_true rfl, Bool.true_and]⟩
  cases hw : mayW (a * b * c).toNat mw lw
  · rw [hoE, if_pos hp, hw] at h; cases h
  · rfl
theorem errP_zero {a b c : Int} {bx : Bx} {t0 t1 t2 : Bool} (h : errP a b c bx t0 t1 t2 = 0) : mayD a b c := by
  rcases errP_cases a b c bx t0 t1 t2 with ⟨h, _, _⟩ | ⟨q | q, _⟩
  · exact h
  · rw [h] at q; cases q
  · rw [h] at q; cases q
/-- What Holds comes to over sets of two. -/
theorem less_holds {a b c : Int} {bx : Bx} {t0 t1 t2 : Bool} {mw lw m2 l2 : List Nat} (wm : ∀ x ∈ mw, x < 18446744073709551616) (wl : ∀ x ∈ lw, x < 18446744073709551616) (wm2 : ∀ x ∈ m2, x < 18446744073709551616) (wl2 : ∀ x ∈ l2, x < 18446744073709551616)
    (h1 : hoE a b c bx t0 t1 t2 mw lw = 0) (h2 : hoE a b c bx t0 t1 t2 m2 l2 = 0) :
    (hoE a b c bx t0 t1 t2 (joinW orW (a * b * c) mw m2) (joinW orW (3 * (a * b * c)) lw l2) = 0 ∧ hoB a b c bx t0 t1 t2 (joinW orW (a * b * c) mw m2) (joinW orW (3 * (a * b * c)) lw l2) = (hoB a b c bx t0 t1 t2 mw lw && hoB a b c bx t0 t1 t2 m2 l2)) ∧
    (hoE a b c bx t0 t1 t2 (joinW notW (a * b * c) mw m2) (joinW notW (3 * (a * b * c)) lw l2) = 0 ∧ (hoB a b c bx t0 t1 t2 mw lw = true → hoB a b c bx t0 t1 t2 (joinW notW (a * b * c) mw m2) (joinW notW (3 * (a * b * c)) lw l2) = true)) := by
  obtain ⟨hp, w1, b1⟩ := ho_zero h1
  obtain ⟨_, w2, b2⟩ := ho_zero h2
  have hb := N_bd (errP_zero hp)
  obtain ⟨n, hn⟩ : ∃ n : Nat, a * b * c = n := ⟨(a * b * c).toNat, by omega⟩
  rw [hn, Int.toNat_natCast] at w1 w2
  unfold mayW at w1 w2
  rw [Bool.and_eq_true] at w1 w2
  obtain ⟨⟨x1, x2⟩, x3, x4⟩ := less_facts (by omega) (by omega) wm wm2 w1.1 w2.1 (midP a b c bx)
  obtain ⟨⟨y1, y2⟩, y3, y4⟩ := less_facts (n := 3 * n) (by omega) (by omega) wl wl2 w1.2 w2.2 (cabP a b c bx t0 t1 t2)
  have e3 : ((3 * n : Nat) : Int) = 3 * (n : Int) := by omega
  rw [e3] at y1 y2 y3 y4
  have zE : ∀ u v : List Nat, maySet n u = true → maySet (3 * n) v = true → hoE a b c bx t0 t1 t2 u v = 0 := fun u v q1 q2 => by
    rw [hoE, if_pos hp, hn, Int.toNat_natCast, mayW, q1, q2]; rfl
  have zB : ∀ u v : List Nat, hoE a b c bx t0 t1 t2 u v = 0 → hoB a b c bx t0 t1 t2 u v = (offW n (midP a b c bx) u && offW (3 * n) (cabP a b c bx t0 t1 t2) v) := fun u v q => by
    rw [(ho_zero q).2.2, wellB, hn, Int.toNat_natCast]
  rw [hn]
  have q1 := zE _ _ x1 y1
  have q2 := zE _ _ x3 y3
  refine ⟨⟨q1, ?_⟩, q2, fun h => ?_⟩
  · rw [zB _ _ q1, zB _ _ h1, zB _ _ h2, x2, y2]
    cases offW n (midP a b c bx) mw <;> cases offW n (midP a b c bx) m2 <;> cases offW (3 * n) (cabP a b c bx t0 t1 t2) lw <;> rfl
  · rw [zB _ _ h1, Bool.and_eq_true] at h
    rw [zB _ _ q2, x4 h.1, y4 h.2]; rfl

set_option maxRecDepth 100000 in
set_option maxHeartbeats 32000000 in
theorem freeLess_walk (a b c : Int) (bx : Bx) (t0 t1 t2 : Bool) (w : World) (hTab : TabOk w) {v1 v2 v3 v4 : Value} {mw lw m2 l2 : List Nat} (h1 : ArgW w v1 mw) (h2 : ArgW w v2 lw) (h3 : ArgW w v3 m2) (h4 : ArgW w v4 l2) :
    Calls Tryz.prog 7 #[A3 a b c, P9 bx t0 t1 t2, v1, v2, v3, v4] w fun e W' => e = .returned (.bool true) ∧ Below w.heap.size w W' := by
  obtain ⟨W, hW, hB, hK, hP⟩ := two_start w #[I a, I b, I c] (C9 bx t0 t1 t2) 23 43
  have HW : Hid ((w.alloc (.cells #[I a, I b, I c] 23)).alloc (.cells (C9 bx t0 t1 t2) 43) = W) := hW
  have h1 := h1.1
  have h2 := h2.1
  have h3 := h3.1
  have h4 := h4.1
  have HA : Hid (Calls Tryz.prog 13 #[] W fun e W' => e = .returned (.bool true) ∧ Below W.heap.size W W') := alive11_calls W (hTab.later hB)
  have H1 : Hid (∀ w1, Below W.heap.size W w1 → Calls Tryz.prog 12 #[A3 a b c, P9 bx t0 t1 t2, v1, v2] w1 fun e W' => e = .returned (.tuple #[.bool (hoB a b c bx t0 t1 t2 mw lw), I (hoE a b c bx t0 t1 t2 mw lw)]) ∧ Below w1.heap.size w1 W') := fun w1 hb => holds_calls t0 t1 t2 w1 (h1.later (then_below hB hb)) (h2.later (then_below hB hb))
  have H2 : Hid (∀ w1, Below W.heap.size W w1 → Calls Tryz.prog 12 #[A3 a b c, P9 bx t0 t1 t2, v3, v4] w1 fun e W' => e = .returned (.tuple #[.bool (hoB a b c bx t0 t1 t2 m2 l2), I (hoE a b c bx t0 t1 t2 m2 l2)]) ∧ Below w1.heap.size w1 W') := fun w1 hb => holds_calls t0 t1 t2 w1 (h3.later (then_below hB hb)) (h4.later (then_below hB hb))
  have HO1 : Hid (∀ w1, Below W.heap.size W w1 → Calls Tryz.prog 22 #[I (a * b * c), v1, v3] w1 fun e W' => ∃ u r, e = .returned (.tuple #[u, r]) ∧ SetR W' w1.heap.size u (joinW orW (a * b * c) mw m2) ∧ Below w1.heap.size w1 W') := fun w1 hb => (or_calls w1 (h1.later (then_below hB hb)) (h3.later (then_below hB hb)) (a * b * c)).mono fun _ _ ⟨u, q1, q2, q3⟩ => ⟨u, _, q1, q2, q3⟩
  have HO2 : Hid (∀ w1, Below W.heap.size W w1 → Calls Tryz.prog 22 #[I (3 * (a * b * c)), v2, v4] w1 fun e W' => ∃ u r, e = .returned (.tuple #[u, r]) ∧ SetR W' w1.heap.size u (joinW orW (3 * (a * b * c)) lw l2) ∧ Below w1.heap.size w1 W') := fun w1 hb => (or_calls w1 (h2.later (then_below hB hb)) (h4.later (then_below hB hb)) (3 * (a * b * c))).mono fun _ _ ⟨u, q1, q2, q3⟩ => ⟨u, _, q1, q2, q3⟩
  have HL1 : Hid (∀ w1, Below W.heap.size W w1 → Calls Tryz.prog 23 #[I (a * b * c), v1, v3] w1 fun e W' => ∃ u r, e = .returned (.tuple #[u, r]) ∧ SetR W' w1.heap.size u (joinW notW (a * b * c) mw m2) ∧ Below w1.heap.size w1 W') := fun w1 hb => (less_calls w1 (h1.later (then_below hB hb)) (h3.later (then_below hB hb)) (a * b * c)).mono fun _ _ ⟨u, q1, q2, q3⟩ => ⟨u, _, q1, q2, q3⟩
  have HL2 : Hid (∀ w1, Below W.heap.size W w1 → Calls Tryz.prog 23 #[I (3 * (a * b * c)), v2, v4] w1 fun e W' => ∃ u r, e = .returned (.tuple #[u, r]) ∧ SetR W' w1.heap.size u (joinW notW (3 * (a * b * c)) lw l2) ∧ Below w1.heap.size w1 W') := fun w1 hb => (less_calls w1 (h2.later (then_below hB hb)) (h4.later (then_below hB hb)) (3 * (a * b * c))).mono fun _ _ ⟨u, q1, q2, q3⟩ => ⟨u, _, q1, q2, q3⟩
  have HH : Hid (∀ (s1 s2 : List Nat) w1 x y, Wds w1 x s1 → Wds w1 y s2 → Calls Tryz.prog 12 #[A3 a b c, P9 bx t0 t1 t2, x, y] w1 fun e W' => e = .returned (.tuple #[.bool (hoB a b c bx t0 t1 t2 s1 s2), I (hoE a b c bx t0 t1 t2 s1 s2)]) ∧ Below w1.heap.size w1 W') := fun s1 s2 w1 x y q1 q2 => holds_calls t0 t1 t2 w1 q1 q2
  have HF : Hid (hoE a b c bx t0 t1 t2 mw lw = 0 → hoE a b c bx t0 t1 t2 m2 l2 = 0 → (wrap64 (a * b) = a * b ∧ wrap64 (a * b * c) = a * b * c ∧ wrap64 (3 * (a * b * c)) = 3 * (a * b * c)) ∧
      ((hoE a b c bx t0 t1 t2 (joinW orW (a * b * c) mw m2) (joinW orW (3 * (a * b * c)) lw l2) = 0 ∧ hoB a b c bx t0 t1 t2 (joinW orW (a * b * c) mw m2) (joinW orW (3 * (a * b * c)) lw l2) = (hoB a b c bx t0 t1 t2 mw lw && hoB a b c bx t0 t1 t2 m2 l2)) ∧
      (hoE a b c bx t0 t1 t2 (joinW notW (a * b * c) mw m2) (joinW notW (3 * (a * b * c)) lw l2) = 0 ∧ (hoB a b c bx t0 t1 t2 mw lw = true → hoB a b c bx t0 t1 t2 (joinW notW (a * b * c) mw m2) (joinW notW (3 * (a * b * c)) lw l2) = true)))) := fun e1 e2 => by
    have hd := errP_zero (ho_zero e1).1
    have hN := N_bd hd
    refine ⟨⟨?_, wrap_in _ (by omega), wrap_in _ (by omega)⟩, less_holds h1.1 h2.1 h3.1 h4.1 e1 e2⟩
    obtain ⟨⟨a1, a2⟩, ⟨b1, b2⟩, _⟩ := hd
    have : 1 * 1 ≤ a * b := Int.mul_le_mul a1 b1 (by omega) (by omega)
    have : a * b ≤ 16 * 16 := Int.mul_le_mul a2 b2 (by omega) (by omega)
    exact wrap_in _ (by omega)
  obtain ⟨a1, c1, rfl, _⟩ := h1.view
  obtain ⟨a2, c2, rfl, _⟩ := h2.view
  obtain ⟨a3, c3, rfl, _⟩ := h3.view
  obtain ⟨a4, c4, rfl, _⟩ := h4.view
  clear hW h1 h2 h3 h4 hTab
  generalize joinW orW (a * b * c) mw m2 = s1 at *
  generalize joinW orW (3 * (a * b * c)) lw l2 = s2 at *
  generalize joinW notW (a * b * c) mw m2 = s3 at *
  generalize joinW notW (3 * (a * b * c)) lw l2 = s4 at *
  generalize hoE a b c bx t0 t1 t2 mw lw = e1 at *
  generalize hoE a b c bx t0 t1 t2 m2 l2 = e2 at *
  generalize hoB a b c bx t0 t1 t2 mw lw = r1 at *
  generalize hoB a b c bx t0 t1 t2 m2 l2 = r2 at *
  generalize mw.length = n1 at *
  generalize lw.length = n2 at *
  generalize m2.length = n3 at *
  generalize l2.length = n4 at *
  go_enter Tryz.func7, Tryz.ntmps7
  go_wp2_with fail
  rw [HW.out]
  refine HA.out.mono ?_
  rintro e w1 ⟨rfl, hT1⟩
  by_cases q1 : 100 < (n1 : Int)
  · clear HF H1 H2 HO1 HO2 HL1 HL2 HH
    go_wp2
    go_ret
    exact ⟨rfl, then_below hB hT1⟩
  have d1 : decide (100 < (n1 : Int)) = false := decide_eq_false q1
  clear q1
  by_cases q2 : 100 < (n2 : Int)
  · clear HF H1 H2 HO1 HO2 HL1 HL2 HH
    go_wp2
    go_ret
    exact ⟨rfl, then_below hB hT1⟩
  have d2 : decide (100 < (n2 : Int)) = false := decide_eq_false q2
  clear q2
  by_cases q3 : 100 < (n3 : Int)
  · clear HF H1 H2 HO1 HO2 HL1 HL2 HH
    go_wp2
    go_ret
    exact ⟨rfl, then_below hB hT1⟩
  have d3 : decide (100 < (n3 : Int)) = false := decide_eq_false q3
  clear q3
  by_cases q4 : 100 < (n4 : Int)
  · clear HF H1 H2 HO1 HO2 HL1 HL2 HH
    go_wp2
    go_ret
    exact ⟨rfl, then_below hB hT1⟩
  have d4 : decide (100 < (n4 : Int)) = false := decide_eq_false q4
  clear q4
  obtain ⟨k0, k1, k2, hz⟩ := hK.three hT1
  obtain ⟨⟨x0, x1, x2⟩, ⟨x3, x4, x5⟩, ⟨x6, x7, x8⟩, hz1⟩ := hP.nine hT1
  go_wp2_with fail
  refine (H1.out _ hT1).mono ?_
  rintro e w2 ⟨rfl, hB2⟩
  have hT2 := then_below hT1 hB2
  clear k0 k1 k2 hz x0 x1 x2 x3 x4 x5 x6 x7 x8 hz1 d1 d2 d3 d4 hT1 hB2
  obtain ⟨k0, k1, k2, hz⟩ := hK.three hT2
  obtain ⟨⟨x0, x1, x2⟩, ⟨x3, x4, x5⟩, ⟨x6, x7, x8⟩, hz1⟩ := hP.nine hT2
  go_wp2_with fail
  refine (H2.out _ hT2).mono ?_
  rintro e w3 ⟨rfl, hB3⟩
  have hT3 := then_below hT2 hB3
  clear k0 k1 k2 hz x0 x1 x2 x3 x4 x5 x6 x7 x8 hz1 hT2 hB3
  by_cases z1 : e1 = 0
  · subst z1
    by_cases z2 : e2 = 0
    · subst z2
      obtain ⟨⟨u1, u2, u3⟩, ⟨f1, f2⟩, f3, f4⟩ := HF.out (by trivial) (by trivial)
      have HC : Hid (∀ w1 x y, Wds w1 x s1 → Wds w1 y s2 → Calls Tryz.prog 12 #[A3 a b c, P9 bx t0 t1 t2, x, y] w1 fun e W' => e = .returned (.tuple #[.bool (r1 && r2), I 0]) ∧ Below w1.heap.size w1 W') := fun w1 x y q1 q2 => by
        have := HH.out s1 s2 w1 x y q1 q2
        rw [f1, f2] at this
        exact this
      have HD : Hid (∀ w1 x y, Wds w1 x s3 → Wds w1 y s4 → Calls Tryz.prog 12 #[A3 a b c, P9 bx t0 t1 t2, x, y] w1 fun e W' => e = .returned (.tuple #[.bool (hoB a b c bx t0 t1 t2 s3 s4), I 0]) ∧ Below w1.heap.size w1 W') := fun w1 x y q1 q2 => by
        have := HH.out s3 s4 w1 x y q1 q2
        rw [f3] at this
        exact this
      have HR : Hid (r1 = true → hoB a b c bx t0 t1 t2 s3 s4 = true) := f4
      clear HF HH H1 H2 f1 f2 f3 f4
      generalize hoB a b c bx t0 t1 t2 s3 s4 = r4 at *
      obtain ⟨k0, k1, k2, hz⟩ := hK.three hT3
      go_wp2_with fail
      refine (HO1.out _ hT3).mono ?_
      rintro e w4 ⟨sa, ra, rfl, hs, hB4⟩
      have HSa : Hid (Wds w4 sa s1) := hs.wds
      have hT4 := then_below hT3 hB4
      clear hs hB4 k0 k1 k2 hz
      go_wp2_with fail
      refine (HO2.out _ hT4).mono ?_
      rintro e w5 ⟨sb, rb, rfl, hs, hB5⟩
      have HSb : Hid (Wds w5 sb s2) := hs.wds
      replace HSa : Hid (Wds w5 sa s1) := HSa.out.later hB5
      have hT5 := then_below hT4 hB5
      clear hs hB5
      go_wp2_with fail
      refine (HL1.out _ hT5).mono ?_
      rintro e w6 ⟨sc, rc, rfl, hs, hB6⟩
      have HSc : Hid (Wds w6 sc s3) := hs.wds
      replace HSa : Hid (Wds w6 sa s1) := HSa.out.later hB6
      replace HSb : Hid (Wds w6 sb s2) := HSb.out.later hB6
      have hT6 := then_below hT5 hB6
      clear hs hB6
      go_wp2_with fail
      refine (HL2.out _ hT6).mono ?_
      rintro e w7 ⟨sd, rd, rfl, hs, hB7⟩
      have HSd : Hid (Wds w7 sd s4) := hs.wds
      replace HSa : Hid (Wds w7 sa s1) := HSa.out.later hB7
      replace HSb : Hid (Wds w7 sb s2) := HSb.out.later hB7
      replace HSc : Hid (Wds w7 sc s3) := HSc.out.later hB7
      have hT7 := then_below hT6 hB7
      clear hs hB7
      obtain ⟨k0, k1, k2, hz⟩ := hK.three hT7
      obtain ⟨⟨x0, x1, x2⟩, ⟨x3, x4, x5⟩, ⟨x6, x7, x8⟩, hz1⟩ := hP.nine hT7
      go_wp2_with fail
      refine (HC.out _ _ _ HSa.out HSb.out).mono ?_
      rintro e w8 ⟨rfl, hB8⟩
      replace HSc : Hid (Wds w8 sc s3) := HSc.out.later hB8
      replace HSd : Hid (Wds w8 sd s4) := HSd.out.later hB8
      have hT8 := then_below hT7 hB8
      clear k0 k1 k2 hz x0 x1 x2 x3 x4 x5 x6 x7 x8 hz1 hB8
      obtain ⟨k0, k1, k2, hz⟩ := hK.three hT8
      obtain ⟨⟨x0, x1, x2⟩, ⟨x3, x4, x5⟩, ⟨x6, x7, x8⟩, hz1⟩ := hP.nine hT8
      go_wp2_with fail
      refine (HD.out _ _ _ HSc.out HSd.out).mono ?_
      rintro e w9 ⟨rfl, hB9⟩
      have hT9 := then_below hT8 hB9
      clear k0 k1 k2 hz x0 x1 x2 x3 x4 x5 x6 x7 x8 hz1 hB9
      cases r1
      · cases r2
        · go_wp2
          go_ret
          exact ⟨rfl, then_below hB hT9⟩
        · go_wp2
          go_ret
          exact ⟨rfl, then_below hB hT9⟩
      · obtain rfl := HR.out rfl
        cases r2
        · go_wp2
          go_ret
          exact ⟨rfl, then_below hB hT9⟩
        · go_wp2
          go_ret
          exact ⟨rfl, then_below hB hT9⟩
    · have z3 : (e2 != 0) = true := by simpa using z2
      clear HF H1 H2 HO1 HO2 HL1 HL2 HH z2
      go_wp2
      go_ret
      exact ⟨rfl, then_below hB hT3⟩
  · have z3 : (e1 != 0) = true := by simpa using z1
    clear HF H1 H2 HO1 HO2 HL1 HL2 HH z1
    go_wp2
    go_ret
    exact ⟨rfl, then_below hB hT3⟩

end Go.Proofs.YtldcagjnngkabaaGreatDoor

/-
  How a place among a statement's arguments is opened: a box's six whole numbers, and three tori.
-/
namespace Go.Proofs.YtldcagjnngkabaaGreatDoor
open Go.ChangeShapes Go.WideShapes Go.ChangeAt Go.RowKit

theorem list9 {α : Type} (l : List α) (h : (⟨l⟩ : Array α).size = 9) : ∃ a b c d e f g i j, l = [a, b, c, d, e, f, g, i, j] := by
  match l, h with
  | [a, b, c, d, e, f, g, i, j], _ => exact ⟨a, b, c, d, e, f, g, i, j, rfl⟩

set_option maxRecDepth 100000 in
theorem open_place {w : World} {H : Type} {enc : TypeId × Value → H} {r : Reach} {b0 base : Nat} {spare : Nat → Bool} {held : Bool} {v : Value} {d : DataW H} {p : List MemPlace}
    (hv : Value.okWide Tryz.prog w r b0 43 v) (h : DataW.Trod enc Tryz.prog w base spare held 43 v d p) : ∃ (b : Bx) (t0 t1 t2 : Bool), v = P9 b t0 t1 t2 := by
  obtain ⟨f0, f1, hu, t0, o0, t1, o1⟩ : ∃ f0 f1, Tryz.prog.underlying 43 = some (.struct #[f0, f1]) ∧ f0.type = 40 ∧ f0.offset = 0 ∧ f1.type = 41 ∧ f1.offset = 6 := ⟨_, _, rfl, rfl, rfl, rfl, rfl⟩
  obtain ⟨s0, s1, hs, q0, r0, q1, r1⟩ : ∃ f0 f1, Tryz.prog.underlying 40 = some (.struct #[f0, f1]) ∧ f0.type = 22 ∧ f0.offset = 0 ∧ f1.type = 22 ∧ f1.offset = 3 := ⟨_, _, rfl, rfl, rfl, rfl, rfl⟩
  obtain ⟨cs, rfl, hsz, _⟩ : ∃ cs, v = .agg cs ∧ cs.size = Tryz.prog.cellsOf 43 ∧ Row.okWide Tryz.prog w r b0 43 cs := by
    simpa [Value.okWide, hu] using hv
  have hct : Tryz.prog.cellsOf 43 = 9 := by kernel_rfl
  rw [hct] at hsz
  obtain ⟨l⟩ := cs
  obtain ⟨c0, c1, c2, c3, c4, c5, c6, c7, c8, rfl⟩ := list9 l hsz
  obtain ⟨fuel, hf⟩ := h
  obtain ⟨x, y, n, _, _, h0, h1⟩ := trod_struct2 hu hf
  have hc6 : Tryz.prog.cellsOf 40 = 6 := by kernel_rfl
  have hc3 : Tryz.prog.cellsOf 22 = 3 := by kernel_rfl
  have hc3' : Tryz.prog.cellsOf 41 = 3 := by kernel_rfl
  have hc1 : Tryz.prog.cellsOf 3 = 1 := by kernel_rfl
  have hc1' : Tryz.prog.cellsOf 4 = 1 := by kernel_rfl
  rw [t0, o0, hc6] at h0
  rw [t1, o1, hc3'] at h1
  have h0 : DataW.trod enc Tryz.prog w base spare held n 40 [c0, c1, c2, c3, c4, c5] = some x := h0
  have h1 : DataW.trod enc Tryz.prog w base spare held n 41 [c6, c7, c8] = some y := h1
  obtain ⟨x', y', n', _, _, h2, h3⟩ := trod_struct2 hs h0
  rw [q0, r0, hc3] at h2
  rw [q1, r1, hc3] at h3
  have h2 : DataW.trod enc Tryz.prog w base spare held n' 22 [c0, c1, c2] = some x' := h2
  have h3 : DataW.trod enc Tryz.prog w base spare held n' 22 [c3, c4, c5] = some y' := h3
  obtain ⟨_, _, _, m, _, g0, g1, g2⟩ := trod_array3 Tryz.underlying22 hc1 h2
  obtain ⟨_, _, _, m', _, g3, g4, g5⟩ := trod_array3 Tryz.underlying22 hc1 h3
  obtain ⟨_, _, _, m'', _, g6, g7, g8⟩ := trod_array3 Tryz.underlying41 hc1' h1
  obtain ⟨x0, e0, _, _⟩ := DataW.trod_int Tryz.underlying3 g0
  obtain ⟨x1, e1, _, _⟩ := DataW.trod_int Tryz.underlying3 g1
  obtain ⟨x2, e2, _, _⟩ := DataW.trod_int Tryz.underlying3 g2
  obtain ⟨x3, e3, _, _⟩ := DataW.trod_int Tryz.underlying3 g3
  obtain ⟨x4, e4, _, _⟩ := DataW.trod_int Tryz.underlying3 g4
  obtain ⟨x5, e5, _, _⟩ := DataW.trod_int Tryz.underlying3 g5
  obtain ⟨y6, e6, _⟩ := DataW.trod_bool Tryz.underlying4 g6
  obtain ⟨y7, e7, _⟩ := DataW.trod_bool Tryz.underlying4 g7
  obtain ⟨y8, e8, _⟩ := DataW.trod_bool Tryz.underlying4 g8
  simp at e0 e1 e2 e3 e4 e5 e6 e7 e8
  subst e0 e1 e2 e3 e4 e5 e6 e7 e8
  exact ⟨⟨x0, x1, x2, x3, x4, x5⟩, y6, y7, y8, rfl⟩

end Go.Proofs.YtldcagjnngkabaaGreatDoor

/-
  What the statements that list math/bits' table ask ahead of a walk: the table lies in its variable, as the condition says.
-/
namespace Go.Proofs.YtldcagjnngkabaaGreatDoor
open Go Go.ChangeShapes Go.WideShapes Go.ChangeAt Go.RowKit

def tabLaid : List (String × DataW Unit) := [("math/bits.deBruijn64tab", Rows.laid_math_bits_deBruijn64tab)]

theorem tab_named : Tryz.prog.globalNamed "math/bits.deBruijn64tab" = some 0 := by kernel_rfl
theorem tab_type : (Tryz.prog.globals[0]?).map (·.type) = some 237 := by kernel_rfl

/-- The heap that the program's own start leaves meets the condition. -/
theorem door_met (os : Os) (args : Array Value) : laidMetH Tryz.prog tabLaid ((World.doorLaid Tryz.prog 14 os).forCall (fun _ _ => 0) ⟨#[], args, []⟩).memory :=
  laidMetH_of_parts3 (fuel := 8) (laidMet_of_run' 8 (by kernel_rfl) (by kernel_rfl)) (by kernel_rfl) (by kernel_rfl)

theorem tab_datum : (Rows.laid_math_bits_deBruijn64tab : DataW Unit) = Lib.tabData .u8 (ofN Lib.deBruijn64tab) := rfl

theorem tab_of {W : World} (h : laidMetH Tryz.prog tabLaid W) : TabOk W := by
  rw [MakeChecks.laidMetH_plain _ _ _ (by kernel_rfl)] at h
  unfold tabLaid at h
  rw [tab_datum] at h
  have hT := Lib.tabIs_of_head tab_named tab_type Tryz.underlying237 Tryz.underlying5 (by kernel_rfl) (by kernel_rfl) h
  intro j hj
  have := hT.cell tab_named j (by rw [ofN_len]; exact hj)
  rw [this, ofN_get]

/-- No parameter's type asks for a stand-in. -/
theorem noS_stand_in (ts : Array TypeId) (h : (ts.toList.all fun t => !Tryz.prog.wantsStandIn t) = true) (j : Nat) (t : TypeId) (ht : ts[j]? = some t) : Tryz.prog.wantsStandIn t = false := by
  have hm : t ∈ ts.toList := by
    obtain ⟨hlt, he⟩ := Array.getElem?_eq_some_iff.1 ht
    rw [← he]
    exact Array.getElem_mem_toList hlt
  have := List.all_eq_true.1 h t hm
  simpa using this

end Go.Proofs.YtldcagjnngkabaaGreatDoor

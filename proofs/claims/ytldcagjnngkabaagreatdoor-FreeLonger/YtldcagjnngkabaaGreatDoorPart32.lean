/-
  A place is free of what is busy through a span, just if none of what it takes is.
-/
import Derived.Test.YtldcagjnngkabaaGreatDoorPart30
import Derived.Test.YtldcagjnngkabaaGreatDoorLawFreeNames
import Derived.Test.YtldcagjnngkabaaGreatDoorPart9
import Derived.Laws.AppendOwn
import Derived.Laws.AppendOwnNone
import Derived.Test.YtldcagjnngkabaaGreatDoorPart27
import Derived.ChangeSlices
import Derived.Test.YtldcagjnngkabaaGreatDoorPart28
namespace Go.Proofs.YtldcagjnngkabaaGreatDoor
open Go Go.RowKit Go.Shelf

theorem well_free {a b c : Int} {ns ls : List (List Slt)} (hm : mayY a b c ns ls) (bx : Bx) (t0 t1 t2 : Bool) {f t : Int} (h : f < t) :
    wellB a b c bx t0 t1 t2 (setOf ns.length (busyP ns f t)) (setOf ls.length (busyP ls f t)) = freeP ns ls (midP a b c bx) (cabP a b c bx t0 t1 t2) f t := by
  obtain ⟨h1, h2, h3⟩ := hm.bd
  have hn : (a * b * c).toNat = ns.length := by rw [← hm.2.1]; simp
  refine bool_ext ?_
  unfold wellB
  rw [hn, ← h3, Bool.and_eq_true, offW_iff, offW_iff, freeP_iff hm.2.2.2.1 hm.2.2.2.2 h]
  have key : ∀ (cs : List (List Slt)) (p : Nat → Bool), maysC cs = true → ((∀ k, k < cs.length → p k = true → hasW (setOf cs.length (busyP cs f t)) k = false) ↔ ∀ k, p k = true → busyP cs f t k = false) := fun cs p hc => by
    constructor
    · intro q k hp
      by_cases hk : k < cs.length
      · have := q k hk hp
        rw [(setOf_is cs.length (busyP cs f t)).has] at this
        simpa [hk] using this
      · exact busy_out hc h hk
    · intro q k hk hp
      rw [(setOf_is cs.length (busyP cs f t)).has, q k hp]
      simp
  rw [key ns _ hm.2.2.2.1, key ls _ hm.2.2.2.2]

end Go.Proofs.YtldcagjnngkabaaGreatDoor

/-
  The statements of layer 11: at: whether a place is free from a moment on, so long.
-/
namespace Go.Proofs.YtldcagjnngkabaaGreatDoor
open Go Go.RowKit Go.Shelf

attribute [local go_sem] Oper.semAt_some ext_const

/-- A set that may be, with more that is asked: no number that is asked for is in either. -/
theorem off_or (n : Nat) (p q : Nat → Bool) (ws : List Nat) : offW n p (setOf n (fun k => q k || hasW ws k)) = (offW n p (setOf n q) && offW n p ws) := by
  refine bool_ext ?_
  rw [Bool.and_eq_true, offW_iff, offW_iff, offW_iff]
  constructor
  · intro h
    refine ⟨fun k hk hp => ?_, fun k hk hp => ?_⟩
    · have := h k hk hp
      rw [(setOf_is n _).has] at this ⊢
      simp [hk] at this ⊢
      exact this.1
    · have := h k hk hp
      rw [(setOf_is n _).has] at this
      simp [hk] at this
      exact this.2
  · rintro ⟨h, g⟩ k hk hp
    have h3 := h k hk hp
    have h4 := g k hk hp
    rw [(setOf_is n _).has] at h3 ⊢
    simp [hk] at h3 ⊢
    exact ⟨h3, h4⟩
theorem may_setOf {n : Nat} (h1 : 1 ≤ n) (h2 : n ≤ 4096) (p q : Nat → Bool) : mayW n (setOf n p) (setOf (3 * n : Nat) q) = true := by
  have e1 := errAll_one h1 (by omega) (setOf n p)
  have e2 := errAll_one (n := 3 * n) (by omega) (by omega) (setOf (3 * n : Nat) q)
  rw [setOf_err (by omega) (by omega)] at e1 e2
  unfold mayW
  cases q1 : maySet n (setOf n p)
  · rw [q1] at e1; cases e1
  · cases q2 : maySet (3 * n) (setOf (3 * n : Nat) q)
    · rw [q2] at e2; cases e2
    · rfl

/-- What at comes to, where all may be: free of what is busy, and of what is bad. -/
theorem hold_busy {a b c : Int} {ns ls : List (List Slt)} {mw lw : List Nat} (hm : mayY a b c ns ls) {bx : Bx} {t0 t1 t2 : Bool} (hp : errP a b c bx t0 t1 t2 = 0) {f t : Int} (h : f < t) :
    hoE a b c bx t0 t1 t2 (setOf ns.length (fun k => busyP ns f t k || hasW mw k)) (setOf ls.length (fun k => busyP ls f t k || hasW lw k)) = 0 ∧
    hoB a b c bx t0 t1 t2 (setOf ns.length (fun k => busyP ns f t k || hasW mw k)) (setOf ls.length (fun k => busyP ls f t k || hasW lw k)) = (freeP ns ls (midP a b c bx) (cabP a b c bx t0 t1 t2) f t && wellB a b c bx t0 t1 t2 mw lw) := by
  obtain ⟨h1, h2, h3⟩ := hm.bd
  have hn : (a * b * c).toNat = ns.length := by rw [← hm.2.1]; simp
  have e0 : hoE a b c bx t0 t1 t2 (setOf ns.length (fun k => busyP ns f t k || hasW mw k)) (setOf ls.length (fun k => busyP ls f t k || hasW lw k)) = 0 := by
    rw [hoE, if_pos hp, hn, h3, may_setOf h1 h2]; rfl
  refine ⟨e0, ?_⟩
  rw [hoB, e0, decide_eq_true rfl, Bool.true_and, ← well_free hm bx t0 t1 t2 h]
  unfold wellB
  rw [hn, h3]
  rw [off_or, off_or]
  cases offW ns.length (midP a b c bx) (setOf ns.length (busyP ns f t)) <;> cases offW (3 * ns.length) (cabP a b c bx t0 t1 t2) (setOf (3 * ns.length : Nat) (busyP ls f t)) <;> cases offW ns.length (midP a b c bx) mw <;> rfl

set_option maxRecDepth 100000 in
set_option maxHeartbeats 8000000 in
theorem at11_calls {a b c f long : Int} {n l vm vl : Value} {ns ls : List (List Slt)} {mw lw : List Nat} {bx : Bx} {t0 t1 t2 : Bool} (w : World) (hN : Yl w n ns) (hL : Yl w l ls) (hM : Wds w vm mw) (hK : Wds w vl lw) (hm : mayY a b c ns ls) (hp : errP a b c bx t0 t1 t2 = 0) (hw : mayW ns.length mw lw = true) (h0 : 0 ≤ f) (hl : 1 ≤ long) (hM2 : f + long ≤ 1099511627776) :
    Calls Tryz.prog 21 #[Y5 a b c n l, P9 bx t0 t1 t2, vm, vl, I f, I long] w fun e W' => e = .returned (.bool (freeP ns ls (midP a b c bx) (cabP a b c bx t0 t1 t2) f (f + long) && wellB a b c bx t0 t1 t2 mw lw)) ∧ Below w.heap.size w W' := by
  obtain ⟨z1, z2⟩ := hold_busy (mw := mw) (lw := lw) hm hp (show f < f + long by omega)
  rw [← z2]
  have hsp : maySp f (f + long) := ⟨h0, by omega, hM2⟩
  have eA : avE a b c ns ls mw lw f (f + long) = 0 := by
    rw [avE, busyE, if_pos (mayYB_iff.2 hm), if_pos ((maySpB_iff _ _).2 hsp), if_pos rfl, hw]; rfl
  obtain ⟨W, hW, hB0, k0, k1⟩ := two_start w (K5 a b c n l) (C9 bx t0 t1 t2) 26 43
  have HW : Hid ((w.alloc (.cells (K5 a b c n l) 26)).alloc (.cells (C9 bx t0 t1 t2) 43) = W) := hW
  have HA : Hid (Calls Tryz.prog 9 #[Y5 a b c n l, vm, vl, S2 f (f + long)] W fun e W' => ∃ u v, e = .returned (.tuple #[u, v, I 0]) ∧ SetR W' W.heap.size u (setOf ns.length (fun k => busyP ns f (f + long) k || hasW mw k)) ∧ SetR W' W.heap.size v (setOf ls.length (fun k => busyP ls f (f + long) k || hasW lw k)) ∧ Below W.heap.size W W') := by
    have := avoid_calls (a := a) (b := b) (c := c) (x := f) (y := f + long) W (hN.later hB0) (hL.later hB0) (hM.later hB0) (hK.later hB0)
    rw [eA] at this
    exact this
  have HH : Hid (∀ w' u v, Wds w' u (setOf ns.length (fun k => busyP ns f (f + long) k || hasW mw k)) → Wds w' v (setOf ls.length (fun k => busyP ls f (f + long) k || hasW lw k)) → Calls Tryz.prog 12 #[A3 a b c, P9 bx t0 t1 t2, u, v] w' fun e W' => e = .returned (.tuple #[.bool (hoB a b c bx t0 t1 t2 (setOf ns.length (fun k => busyP ns f (f + long) k || hasW mw k)) (setOf ls.length (fun k => busyP ls f (f + long) k || hasW lw k))), I 0]) ∧ Below w'.heap.size w' W') := fun w' u v q1 q2 => by
    have := holds_calls (a := a) (b := b) (c := c) (bx := bx) t0 t1 t2 w' q1 q2
    rw [z1] at this
    exact this
  have hwr : wrap64 (f + long) = f + long := wrap_in _ (by omega)
  obtain ⟨_, _, rfl, _⟩ := hN.form
  obtain ⟨_, _, rfl, _⟩ := hL.form
  obtain ⟨_, _, _, rfl⟩ := hM.form
  obtain ⟨_, _, _, rfl⟩ := hK.form
  clear z1 z2 eA hsp hW hN hL hM hK hm hp hw h0 hl hM2
  generalize hoB a b c bx t0 t1 t2 (setOf ns.length (fun k => busyP ns f (f + long) k || hasW mw k)) (setOf ls.length (fun k => busyP ls f (f + long) k || hasW lw k)) = r at *
  generalize setOf ns.length (fun k => busyP ns f (f + long) k || hasW mw k) = S1 at *
  generalize setOf ls.length (fun k => busyP ls f (f + long) k || hasW lw k) = S2' at *
  generalize ns.length = n1 at *
  generalize ls.length = n2 at *
  obtain ⟨p0, p1, p2, p3, p4, hz⟩ := k0.five
  go_enter Tryz.func21, Tryz.ntmps21
  go_wp2_with fail
  rw [HW.out]
  refine HA.out.mono ?_
  rintro e w1 ⟨u, v, rfl, hu, hv, hT⟩
  have HU : Hid (Wds w1 u S1) := hu.wds
  have HV : Hid (Wds w1 v S2') := hv.wds
  clear hu hv p0 p1 p2 p3 p4 hz
  obtain ⟨p0, p1, p2, p3, p4, hz⟩ := k0.yard hT
  obtain ⟨⟨x0, x1, x2⟩, ⟨x3, x4, x5⟩, ⟨x6, x7, x8⟩, hz1⟩ := k1.nine hT
  go_wp2_with fail
  refine (HH.out _ _ _ HU.out HV.out).mono ?_
  rintro e w2 ⟨rfl, hT2⟩
  clear p0 p1 p2 p3 p4 hz x0 x1 x2 x3 x4 x5 x6 x7 x8 hz1
  go_wp2
  go_ret
  exact ⟨rfl, then_below hB0 (then_below hT hT2)⟩

end Go.Proofs.YtldcagjnngkabaaGreatDoor

/-
  What free.Soon's answers say.
-/
namespace Go.Proofs.YtldcagjnngkabaaGreatDoor
open Go Go.RowKit Go.Shelf

/-- What Soon's answer says: refused otherwise than by ErrNone; or all may be: nothing bad is taken, and there is a least moment; or else there is none. -/
theorem so_cases (a b c : Int) (ns ls : List (List Slt)) (bx : Bx) (t0 t1 t2 : Bool) (mw lw : List Nat) (f long : Int) :
    (soE a b c ns ls bx t0 t1 t2 mw lw f long ≠ 0 ∧ soE a b c ns ls bx t0 t1 t2 mw lw f long ≠ 6 ∧ soV a b c ns ls bx t0 t1 t2 mw lw f long = 0) ∨
    (mayY a b c ns ls ∧ errP a b c bx t0 t1 t2 = 0 ∧ mayW ns.length mw lw = true ∧ ((0 ≤ f ∧ f < 1099511627776) ∧ 1 ≤ long) ∧
      ((soE a b c ns ls bx t0 t1 t2 mw lw f long = 6 ∧ soV a b c ns ls bx t0 t1 t2 mw lw f long = 0 ∧ (wellB a b c bx t0 t1 t2 mw lw = false ∨ soonT ns ls (midP a b c bx) (cabP a b c bx t0 t1 t2) f long = none)) ∨
       (soE a b c ns ls bx t0 t1 t2 mw lw f long = 0 ∧ wellB a b c bx t0 t1 t2 mw lw = true ∧ soonT ns ls (midP a b c bx) (cabP a b c bx t0 t1 t2) f long = some (soV a b c ns ls bx t0 t1 t2 mw lw f long)))) := by
  by_cases hm : mayY a b c ns ls
  · have hn : (a * b * c).toNat = ns.length := by rw [← hm.2.1]; simp
    unfold soE soV
    rw [if_pos (mayYB_iff.2 hm), if_pos (mayYB_iff.2 hm), hn]
    by_cases hp : errP a b c bx t0 t1 t2 = 0
    · rw [if_pos hp, if_pos hp]
      cases hw : mayW ns.length mw lw
      · left; simp [goE, goV]
      · cases hk : askB f long
        · left; simp [goE, goV]
        · refine .inr ⟨hm, hp, rfl, askB_iff.1 hk, ?_⟩
          cases hwell : wellB a b c bx t0 t1 t2 mw lw
          · left; simp [goE, goV]
          · cases hs : soonT ns ls (midP a b c bx) (cabP a b c bx t0 t1 t2) f long with
            | none => left; simp [goE, goV, errO, valO]
            | some v => right; simp [goE, goV, errO, valO]
    · rw [if_neg hp, if_neg hp]
      left
      rcases errP_cases a b c bx t0 t1 t2 with ⟨_, _, h⟩ | ⟨h | h, _⟩
      · exact absurd h hp
      · rw [h]; simp
      · rw [h]; simp
  · unfold soE soV
    rw [mayYB_no hm]
    left; simp

end Go.Proofs.YtldcagjnngkabaaGreatDoor

/-
  Sets of two below a bound, and what is asked for of them.
-/
namespace Go.Proofs.YtldcagjnngkabaaGreatDoor
open Go Go.RowKit Go.Shelf

/-- Sets of two, below a bound that may be. -/
theorem join_is {n : Nat} {op : Nat → Nat → Nat} {g : Bool → Bool → Bool} {a b : List Nat} (hj : IsSet ((n + 63) / 64) (joinW op n a b) (fun j => g (hasW a j) (hasW b j))) (hg : g false false = false) (ha : maySet n a = true) (hb : maySet n b = true) : maySet n (joinW op n a b) = true :=
  mayS_iff.2 ⟨hj.len, fun k hk => by rw [hj.has, (mayS_iff.1 ha).2 k hk, (mayS_iff.1 hb).2 k hk]; exact hg⟩
theorem less_facts {n : Nat} (h1 : 1 ≤ n) (h2 : n ≤ 12288) {a b : List Nat} (wa : ∀ x ∈ a, x < 18446744073709551616) (wb : ∀ x ∈ b, x < 18446744073709551616) (ha : maySet n a = true) (hb : maySet n b = true) (p : Nat → Bool) :
    (maySet n (joinW orW n a b) = true ∧ offW n p (joinW orW n a b) = (offW n p a && offW n p b)) ∧ (maySet n (joinW notW n a b) = true ∧ (offW n p a = true → offW n p (joinW notW n a b) = true)) := by
  have e1 := errAll_one h1 h2 a
  have e2 := errAll_one h1 h2 b
  rw [ha] at e1
  rw [hb] at e2
  have T := three_of wa wb (errAll_both e1 e2)
  have i2 := T.i2
  have i3 := T.i3
  rw [Int.toNat_natCast] at i2 i3
  refine ⟨⟨join_is i2 rfl ha hb, ?_⟩, ⟨join_is (g := fun x y => x && !y) i3 rfl ha hb, fun h => ?_⟩⟩
  · refine bool_ext ?_
    rw [Bool.and_eq_true, offW_iff, offW_iff, offW_iff]
    constructor
    · intro h
      refine ⟨fun k hk hp => ?_, fun k hk hp => ?_⟩
      · have := h k hk hp
        rw [i2.has] at this
        exact (Bool.or_eq_false_iff.1 this).1
      · have := h k hk hp
        rw [i2.has] at this
        exact (Bool.or_eq_false_iff.1 this).2
    · rintro ⟨h, g⟩ k hk hp
      rw [i2.has, h k hk hp, g k hk hp]; rfl
  · refine offW_iff.2 fun k hk hp => ?_
    rw [i3.has, offW_iff.1 h k hk hp, Bool.false_and]

end Go.Proofs.YtldcagjnngkabaaGreatDoor

/-
  A set among the arguments: as it came in, and a copy of it.
-/
namespace Go.Proofs.YtldcagjnngkabaaGreatDoor
open Go Go.RowKit Go.Shelf

/-- A row of words that came in. -/
def ArgW (W : World) (v : Value) (ws : List Nat) : Prop := Wds W v ws ∧ (v = .slice none 0 0 ∨ ∃ ad cap, v = .slice (some ad) ws.length cap)
def ArgI (W : World) (v : Value) (xs : List Int) : Prop := Its W v xs ∧ (v = .slice none 0 0 ∨ ∃ ad cap, v = .slice (some ad) xs.length cap)

theorem owns_wds {W : World} {base : Nat} {v : Value} {ws : List Nat} (hw : ∀ x ∈ ws, x < 18446744073709551616) (h : W.ownsRow base 34 1 v ws.length (ws.map U)) : Wds W v ws := by
  obtain ⟨h1, h2⟩ := h
  refine ⟨hw, ?_⟩
  rcases h2 with ⟨rfl, hn⟩ | ⟨g, cap, cur, rfl, hg, hh, hc, hc2, hs, ht⟩
  · have : ws = [] := List.length_eq_zero_iff.1 hn
    subst this
    exact Sl.nil W
  · refine ⟨_, cap, by simp, fun k hk => ⟨g, 0, rfl, (Array.getElem?_eq_some_iff.1 hh).1, ?_⟩⟩
    have hb : Blk W g 34 cur := hh
    rw [Nat.zero_add, hb.cell k]
    have := congrArg (fun l => l[k]?) ht
    simp only [Nat.mul_one] at this
    rw [List.length_map] at hk
    rw [List.getElem?_take_of_lt hk, Array.getElem?_toList] at this
    exact this

/-- 'own = append(own, s...)', own nil. -/
theorem wpList_copy {ops : Array Oper} {rest : List Oper} {o : Oper} {a : Act} {Q : Exit → Act → World → Prop} {W : World} {v : Value} {ws : List Nat} (hgd : o.guard = none) (s x : Operand)
    (ho : o.op = .call { callee := .builtin .append, args := #[s, x], argTypes := #[30, 30] }) (hs : a.eval s = .slice none 0 0) (hx : a.eval x = v)
    (hA : ArgW W v ws) (hl : ws.length ≤ 1000)
    (h : ∀ v' w', Wds w' v' ws → Below W.heap.size W w' → wpList Tryz.prog ops Q rest (a.put o.dst v') w') : wpList Tryz.prog ops Q (o :: rest) a W := by
  obtain ⟨i0, hi, hz0, hz1, hz2⟩ := info_parts info_u64
  obtain ⟨hW, rfl | ⟨ad, cap, rfl⟩⟩ := hA
  · have e : ws = [] := by
      obtain ⟨ao, c, e, _⟩ := hW.view
      simp only [Value.slice.injEq] at e
      exact List.length_eq_zero_iff.1 e.2.1.symm
    subst e
    exact wpList_append_own_none hgd s x 30 ho W.heap.size 34 i0 1 Tryz.underlying30 hi (.slice none 0 0) 0 [] hs (World.ownsRow_nil _ _ _ _) hx (h _ _ (Wds.nil W) (Below.refl _ _))
  · refine wpList_append_own (w := W) hgd s x 30 ho W.heap.size 34 i0 (.int .u64 0) 1 8 Tryz.underlying30 hi hz0 hz1 hz2 rfl (by decide) (.slice none 0 0) 0 [] hs (World.ownsRow_nil _ _ _ _) ad ws.length cap (ws.map U) hx (by simp) ?_ ?_ ?_ ?_ ?_ ?_
    · intro j u hj
      obtain ⟨ao, c, e, hv⟩ := hW.view
      simp only [Value.slice.injEq] at e
      obtain ⟨rfl, -, -⟩ := e
      have hjl : j < ws.length := by
        have := (List.getElem?_eq_some_iff.1 hj).1
        simpa using this
      obtain ⟨g, off, e, hg, hc⟩ := hv j hjl
      simp only [Option.some.injEq] at e
      subst e
      have : (⟨g, off, none⟩ : Addr).add j = ⟨g, off + j, none⟩ := by
        unfold Addr.add
        split
        · rename_i h0; subst h0; rfl
        · rfl
      rw [this, hc, ← hj]
      simp [hjl]
    · intro u hu
      obtain ⟨y, _, rfl⟩ := List.mem_map.1 hu
      rfl
    · unfold maxLen; omega
    · omega
    · omega
    · intro v' w1 hown' hgrow _
      refine h v' w1 (owns_wds hW.1 (by simpa using hown')) ?_
      exact (Below.refl _ W).grown hgrow (Nat.le_refl _) (fun k hk => by cases hk)

end Go.Proofs.YtldcagjnngkabaaGreatDoor

/-
  How a set, and a list of whole numbers, among a statement's arguments is opened.
-/
namespace Go.Proofs.YtldcagjnngkabaaGreatDoor
open Go Go.ChangeShapes Go.WideShapes Go.ChangeAt Go.RowKit

theorem spot_none {w : World} {a : Addr} {v : Value} (h : w.cell? a = some v) : a.spot = none := by
  unfold World.cell? at h
  split at h
  · split at h
    · cases h
    · rename_i hs
      cases hq : a.spot
      · rfl
      · rw [hq] at hs; exact absurd rfl hs
  · cases h
theorem block_lt {w : World} {a : Addr} {v : Value} (h : w.cell? a = some v) : a.block < w.heap.size := by
  unfold World.cell? at h
  split at h
  · rename_i hs
    exact (Array.getElem?_eq_some_iff.1 hs).1
  · cases h

set_option maxRecDepth 100000 in
/-- A slice of numbers of one kind, as it came in. -/
theorem open_row_of {P : Program} {w : World} {H : Type} {enc : TypeId × Value → H} {r : Reach} {b0 base : Nat} {spare : Nat → Bool} {held : Bool} {t e : TypeId} {k : IntKind} {v : Value} {d : DataW H} {p : List MemPlace}
    (ht : P.underlying t = some (.slice e)) (he : P.underlying e = some (.int k)) (hc : P.cellsOf e = 1)
    (hv : Value.okWide P w r b0 t v) (h : DataW.Trod enc P w base spare held t v d p) :
    ∃ zs : List Int, (∀ z ∈ zs, (Lit.int k z).wf = true) ∧ Sl w v (zs.map (Value.int k)) ∧ (v = .slice none 0 0 ∧ zs = [] ∨ ∃ ad cap, v = .slice (some ad) zs.length cap) := by
  obtain ⟨a, len, cap, rfl⟩ := okWide_slice ht hv
  obtain ⟨fuel, hf⟩ := h
  rcases open_ints ht he hc hf with ⟨hcs, -⟩ | ⟨a0, len0, cap0, zs, hcs, _, hl, _, hz, _, hcell, hwf⟩
  · have e0 : Value.slice a len cap = .slice none 0 0 := by
      have : [Value.slice a len cap] = [.slice none 0 0] := hcs
      exact List.head_eq_of_cons_eq this
    rw [e0]
    exact ⟨[], fun _ h => (by cases h), Sl.nil w, .inl ⟨rfl, rfl⟩⟩
  · have e0 : Value.slice a len cap = .slice (some a0) len0 cap0 := by
      have : [Value.slice a len cap] = [.slice (some a0) len0 cap0] := hcs
      exact List.head_eq_of_cons_eq this
    rw [e0]
    have hlz : len0 ≤ zs.length := by rw [hz]; split <;> omega
    have hlt : (zs.take len0).length = len0 := by simp [hlz]
    refine ⟨zs.take len0, fun z hz' => hwf z (List.mem_of_mem_take hz'), ⟨some a0, cap0, by simp [hlz], fun i hi => ?_⟩, .inr ⟨a0, cap0, by rw [hlt]⟩⟩
    rw [List.length_map, hlt] at hi
    have hi2 : i < zs.length := by omega
    have c0 := hcell i hi2
    have cc := hcell 0 (by omega)
    obtain ⟨g, off, sp⟩ := a0
    have hs : sp = none := by
      have := spot_none cc
      simpa [Addr.add] using this
    subst hs
    have ea : (⟨g, off, none⟩ : Addr).add i = ⟨g, off + i, none⟩ := by
      unfold Addr.add
      split
      · rename_i h0; subst h0; rfl
      · rfl
    rw [ea] at c0
    exact ⟨g, off, rfl, block_lt c0, by rw [c0]; simp [hi, hi2]⟩

theorem word_of {z : Int} (h : (Lit.int .u64 z).wf = true) : 0 ≤ z ∧ z < 18446744073709551616 := by
  unfold Lit.wf at h
  simp [IntKind.min, IntKind.max, IntKind.signed, IntKind.bits] at h
  omega

set_option maxRecDepth 100000 in
theorem open_set {w : World} {H : Type} {enc : TypeId × Value → H} {r : Reach} {b0 base : Nat} {spare : Nat → Bool} {held : Bool} {v : Value} {d : DataW H} {p : List MemPlace}
    (hv : Value.okWide Tryz.prog w r b0 30 v) (h : DataW.Trod enc Tryz.prog w base spare held 30 v d p) : ∃ ws : List Nat, ArgW w v ws := by
  obtain ⟨zs, hw, hs, hc⟩ := open_row_of Tryz.underlying30 Tryz.underlying34 (by kernel_rfl) hv h
  have e : (zs.map Int.toNat).map U = zs.map (Value.int .u64) := by
    rw [List.map_map]
    apply List.map_congr_left
    intro z hz
    have := word_of (hw z hz)
    show Value.int .u64 ((z.toNat : Nat) : Int) = _
    rw [Int.toNat_of_nonneg this.1]
  refine ⟨zs.map Int.toNat, ⟨fun x hx => ?_, by rw [e]; exact hs⟩, ?_⟩
  · obtain ⟨z, hz, rfl⟩ := List.mem_map.1 hx
    have := word_of (hw z hz)
    omega
  · rcases hc with ⟨rfl, _⟩ | ⟨ad, cap, rfl⟩
    · exact .inl rfl
    · exact .inr ⟨ad, cap, by simp⟩

set_option maxRecDepth 100000 in
theorem open_list {w : World} {H : Type} {enc : TypeId × Value → H} {r : Reach} {b0 base : Nat} {spare : Nat → Bool} {held : Bool} {v : Value} {d : DataW H} {p : List MemPlace}
    (hv : Value.okWide Tryz.prog w r b0 76 v) (h : DataW.Trod enc Tryz.prog w base spare held 76 v d p) : ∃ xs : List Int, ArgI w v xs ∧ ∀ x ∈ xs, (Lit.int .i64 x).wf = true := by
  obtain ⟨zs, hw, hs, hc⟩ := open_row_of Tryz.underlying76 Tryz.underlying3 (by kernel_rfl) hv h
  refine ⟨zs, ⟨hs, ?_⟩, hw⟩
  rcases hc with ⟨rfl, _⟩ | h
  · exact .inl rfl
  · exact .inr h

end Go.Proofs.YtldcagjnngkabaaGreatDoor

/-
  FreeLonger: the walk.
-/
namespace Go.Proofs.YtldcagjnngkabaaGreatDoor
open Go Go.RowKit Go.Shelf

attribute [local go_sem] Oper.semAt_some ext_const

theorem soV_zero {a b c : Int} {ns ls : List (List Slt)} {bx : Bx} {t0 t1 t2 : Bool} {mw lw : List Nat} {f long : Int} (h : soE a b c ns ls bx t0 t1 t2 mw lw f long ≠ 0) : soV a b c ns ls bx t0 t1 t2 mw lw f long = 0 := by
  rcases so_cases a b c ns ls bx t0 t1 t2 mw lw f long with ⟨_, _, h⟩ | ⟨_, _, _, _, ⟨_, h, _⟩ | ⟨e, _⟩⟩
  · exact h
  · exact h
  · exact absurd e h
/-- Where all may be and nothing bad is taken, the answer is the least moment's, or that there is none. -/
theorem so_well {a b c : Int} {ns ls : List (List Slt)} {bx : Bx} {t0 t1 t2 : Bool} {mw lw : List Nat} {f long : Int} (hm : mayY a b c ns ls) (hp : errP a b c bx t0 t1 t2 = 0) (hw : mayW ns.length mw lw = true) (hf : 0 ≤ f ∧ f < 1099511627776) (hl : 1 ≤ long) :
    soE a b c ns ls bx t0 t1 t2 mw lw f long = 6 ∨ (soE a b c ns ls bx t0 t1 t2 mw lw f long = 0 ∧ soonT ns ls (midP a b c bx) (cabP a b c bx t0 t1 t2) f long = some (soV a b c ns ls bx t0 t1 t2 mw lw f long)) := by
  have hn : (a * b * c).toNat = ns.length := by rw [← hm.2.1]; simp
  unfold soE soV
  rw [if_pos (mayYB_iff.2 hm), if_pos (mayYB_iff.2 hm), hn, if_pos hp, if_pos hp, hw, askB_iff.2 ⟨hf, hl⟩]
  cases hwell : wellB a b c bx t0 t1 t2 mw lw
  · left; simp [goE]
  · cases hs : soonT ns ls (midP a b c bx) (cabP a b c bx t0 t1 t2) f long with
    | none => left; simp [goE, errO]
    | some v => right; simp [goE, goV, errO, valO]
/-- A longer job, a later moment, more that is bad: not sooner. -/
theorem so_more {a b c : Int} {ns ls : List (List Slt)} {bx : Bx} {t0 t1 t2 : Bool} {mw lw bw : List Nat} {f long more : Int} (wm : ∀ x ∈ mw, x < 18446744073709551616) (wb : ∀ x ∈ bw, x < 18446744073709551616) (h : soE a b c ns ls bx t0 t1 t2 mw lw f long = 0) (h0 : 0 ≤ more) (h1 : f + more < 1099511627776) :
    (soE a b c ns ls bx t0 t1 t2 mw lw f (long + more) = 6 ∨ (soE a b c ns ls bx t0 t1 t2 mw lw f (long + more) = 0 ∧ soV a b c ns ls bx t0 t1 t2 mw lw f long ≤ soV a b c ns ls bx t0 t1 t2 mw lw f (long + more))) ∧
    (soE a b c ns ls bx t0 t1 t2 mw lw (f + more) long = 6 ∨ (soE a b c ns ls bx t0 t1 t2 mw lw (f + more) long = 0 ∧ soV a b c ns ls bx t0 t1 t2 mw lw f long ≤ soV a b c ns ls bx t0 t1 t2 mw lw (f + more) long)) ∧
    (errAll ns.length [mw, bw] = 0 → soE a b c ns ls bx t0 t1 t2 (joinW orW ns.length mw bw) lw f long = 6 ∨ (soE a b c ns ls bx t0 t1 t2 (joinW orW ns.length mw bw) lw f long = 0 ∧ soV a b c ns ls bx t0 t1 t2 (joinW orW ns.length mw bw) lw f long = soV a b c ns ls bx t0 t1 t2 mw lw f long)) := by
  rcases so_cases a b c ns ls bx t0 t1 t2 mw lw f long with ⟨q, _, _⟩ | ⟨hm, hp, hw, ⟨hf, hl⟩, ⟨q, _, _⟩ | ⟨_, hwell, hs⟩⟩
  · exact absurd h q
  · rw [h] at q; cases q
  · have hmn := hm.2.2.2.1
    have hml := hm.2.2.2.2
    obtain ⟨b1, b2, b3⟩ := hm.bd
    refine ⟨?_, ?_, fun he => ?_⟩
    · rcases so_well (long := long + more) hm hp hw hf (by omega) with e | ⟨e, es⟩
      · exact .inl e
      · exact .inr ⟨e, soon_longer hmn hml hl h0 hs es⟩
    · rcases so_well (f := f + more) hm hp hw ⟨by omega, h1⟩ hl with e | ⟨e, es⟩
      · exact .inl e
      · exact .inr ⟨e, soon_later hmn hml hl h0 hs es⟩
    · obtain ⟨e1, e2⟩ := errAll_split he
      obtain ⟨_, _, m1⟩ := err_one e1
      obtain ⟨_, _, m2⟩ := err_one e2
      rw [Int.toNat_natCast] at m1 m2
      obtain ⟨⟨x1, x2⟩, _⟩ := less_facts b1 (by omega) wm wb m1 m2 (midP a b c bx)
      have hw2 : mayW ns.length (joinW orW ns.length mw bw) lw = true := by
        unfold mayW at hw ⊢
        rw [Bool.and_eq_true] at hw
        rw [x1, hw.2]; rfl
      rcases so_well (mw := joinW orW ns.length mw bw) (lw := lw) hm hp hw2 hf hl with e | ⟨e, es⟩
      · exact .inl e
      · refine .inr ⟨e, ?_⟩
        rw [hs] at es
        exact (Option.some.inj es).symm

set_option maxRecDepth 100000 in
set_option maxHeartbeats 32000000 in
theorem freeLonger_walk (a b c : Int) (bx : Bx) (t0 t1 t2 : Bool) (f long more : Int) (w : World) (hTab : TabOk w) {n l vm vk vb : Value} {ns ls : List (List Slt)} {mw lw bw : List Nat} (hN : Yl w n ns) (hL : Yl w l ls) (bN : Lids ns) (bL : Lids ls) (hM : ArgW w vm mw) (hK' : ArgW w vk lw) (hBd : ArgW w vb bw)
    (_wf : (Lit.int .i64 f).wf = true) (_wl : (Lit.int .i64 long).wf = true) (hmore : 0 ≤ more ∧ more ≤ 255) :
    Calls Tryz.prog 6 #[Y5 a b c n l, P9 bx t0 t1 t2, vm, vk, vb, I f, I long, .int .u8 more] w fun e W' => e = .returned (.bool true) ∧ Below w.heap.size w W' := by
  obtain ⟨W, hW, hB, hK, hP⟩ := two_start w (K5 a b c n l) (C9 bx t0 t1 t2) 26 43
  have HW : Hid ((w.alloc (.cells (K5 a b c n l) 26)).alloc (.cells (C9 bx t0 t1 t2) 43) = W) := hW
  have hM := hM.1
  have hK' := hK'.1
  have hBd := hBd.1
  have HA : Hid (Calls Tryz.prog 13 #[] W fun e W' => e = .returned (.bool true) ∧ Below W.heap.size W W') := alive11_calls W (hTab.later hB)
  have HG : Hid (∀ w1, Below W.heap.size W w1 → Calls Tryz.prog 15 #[Y5 a b c n l] w1 fun e W' => e = .returned (.bool (greatB ns ls)) ∧ Below w1.heap.size w1 W') := fun w1 hb => great_calls w1 (hN.later (then_below hB hb)) (hL.later (then_below hB hb)) bN bL
  have HSo : Hid ((slotsY ns ls).length ≤ 10000 → ∀ w1 vx (xw : List Nat) (f' l' : Int), Below W.heap.size W w1 → Wds w1 vx xw → Calls Tryz.prog 10 #[Y5 a b c n l, P9 bx t0 t1 t2, vx, vk, I f', I l'] w1 fun e W' => e = .returned (.tuple #[I (soV a b c ns ls bx t0 t1 t2 xw lw f' l'), I (soE a b c ns ls bx t0 t1 t2 xw lw f' l')]) ∧ Below w1.heap.size w1 W') := fun h w1 vx xw f' l' hb hx => soon_calls t0 t1 t2 w1 (hTab.later (then_below hB hb)) (hN.later (then_below hB hb)) (hL.later (then_below hB hb)) hx (hK'.later (then_below hB hb)) (by omega)
  have HMw : Hid (Wds W vm mw) := hM.later hB
  have HO : Hid (∀ w1, Below W.heap.size W w1 → Calls Tryz.prog 22 #[I ns.length, vm, vb] w1 fun e W' => ∃ u, e = .returned (.tuple #[u, I (errAll ns.length [mw, bw])]) ∧ SetR W' w1.heap.size u (joinW orW ns.length mw bw) ∧ Below w1.heap.size w1 W') := fun w1 hb => or_calls w1 (hM.later (then_below hB hb)) (hBd.later (then_below hB hb)) _
  obtain ⟨an, cn, rfl, _⟩ := hN.form
  obtain ⟨al, cl, rfl, _⟩ := hL.form
  obtain ⟨am, cm, rfl, _⟩ := hM.view
  obtain ⟨ak, ck, rfl, _⟩ := hK'.view
  obtain ⟨ab, cb, rfl, _⟩ := hBd.view
  obtain ⟨gr, hgr⟩ : ∃ gr, gr = greatB ns ls := ⟨_, rfl⟩
  rw [← hgr] at HG
  have HSt : Hid (gr = false → (slotsY ns ls).length ≤ 10000) := fun h => slots_small bN bL (hgr ▸ h)
  have HZ : Hid (soE a b c ns ls bx t0 t1 t2 mw lw f long ≠ 0 → soV a b c ns ls bx t0 t1 t2 mw lw f long = 0) := soV_zero
  have HX : Hid (soE a b c ns ls bx t0 t1 t2 mw lw f long = 0 → 0 ≤ more → f + more < 1099511627776 → _) := fun q1 q2 q3 => so_more (bw := bw) hM.1 hBd.1 q1 q2 q3
  clear hW hN hL bN bL hgr hM hK' hBd hTab
  obtain ⟨V, hV⟩ : ∃ V, V = soV a b c ns ls bx t0 t1 t2 mw lw f long := ⟨_, rfl⟩
  obtain ⟨E, hE⟩ : ∃ E, E = soE a b c ns ls bx t0 t1 t2 mw lw f long := ⟨_, rfl⟩
  obtain ⟨A, hA⟩ : ∃ A, A = soV a b c ns ls bx t0 t1 t2 mw lw f (long + more) := ⟨_, rfl⟩
  obtain ⟨Ea, hEa⟩ : ∃ E, E = soE a b c ns ls bx t0 t1 t2 mw lw f (long + more) := ⟨_, rfl⟩
  obtain ⟨Bv, hBv⟩ : ∃ A, A = soV a b c ns ls bx t0 t1 t2 mw lw (f + more) long := ⟨_, rfl⟩
  obtain ⟨Eb, hEb⟩ : ∃ E, E = soE a b c ns ls bx t0 t1 t2 mw lw (f + more) long := ⟨_, rfl⟩
  obtain ⟨J, hJ⟩ : ∃ J, J = joinW orW ns.length mw bw := ⟨_, rfl⟩
  rw [← hJ] at HO HX
  obtain ⟨C, hC⟩ : ∃ A, A = soV a b c ns ls bx t0 t1 t2 J lw f long := ⟨_, rfl⟩
  obtain ⟨Ec, hEc⟩ : ∃ E, E = soE a b c ns ls bx t0 t1 t2 J lw f long := ⟨_, rfl⟩
  rw [← hV, ← hE] at HZ
  rw [← hV, ← hE, ← hA, ← hEa, ← hBv, ← hEb, ← hC, ← hEc] at HX
  have HSo1 : Hid ((slotsY ns ls).length ≤ 10000 → ∀ w1, Below W.heap.size W w1 → Wds w1 (.slice am mw.length cm) mw → Calls Tryz.prog 10 #[Y5 a b c (.slice an ns.length cn) (.slice al ls.length cl), P9 bx t0 t1 t2, .slice am mw.length cm, .slice ak lw.length ck, I f, I long] w1 fun e W' => e = .returned (.tuple #[I V, I E]) ∧ Below w1.heap.size w1 W') := fun h w1 hb hx => by rw [hV, hE]; exact HSo.out h w1 _ mw f long hb hx
  have HSo2 : Hid ((slotsY ns ls).length ≤ 10000 → ∀ w1, Below W.heap.size W w1 → Wds w1 (.slice am mw.length cm) mw → Calls Tryz.prog 10 #[Y5 a b c (.slice an ns.length cn) (.slice al ls.length cl), P9 bx t0 t1 t2, .slice am mw.length cm, .slice ak lw.length ck, I f, I (long + more)] w1 fun e W' => e = .returned (.tuple #[I A, I Ea]) ∧ Below w1.heap.size w1 W') := fun h w1 hb hx => by rw [hA, hEa]; exact HSo.out h w1 _ mw f (long + more) hb hx
  have HSo3 : Hid ((slotsY ns ls).length ≤ 10000 → ∀ w1, Below W.heap.size W w1 → Wds w1 (.slice am mw.length cm) mw → Calls Tryz.prog 10 #[Y5 a b c (.slice an ns.length cn) (.slice al ls.length cl), P9 bx t0 t1 t2, .slice am mw.length cm, .slice ak lw.length ck, I (f + more), I long] w1 fun e W' => e = .returned (.tuple #[I Bv, I Eb]) ∧ Below w1.heap.size w1 W') := fun h w1 hb hx => by rw [hBv, hEb]; exact HSo.out h w1 _ mw (f + more) long hb hx
  have HSo4 : Hid ((slotsY ns ls).length ≤ 10000 → ∀ w1 vx, Below W.heap.size W w1 → Wds w1 vx J → Calls Tryz.prog 10 #[Y5 a b c (.slice an ns.length cn) (.slice al ls.length cl), P9 bx t0 t1 t2, vx, .slice ak lw.length ck, I f, I long] w1 fun e W' => e = .returned (.tuple #[I C, I Ec]) ∧ Below w1.heap.size w1 W') := fun h w1 vx hb hx => by rw [hC, hEc]; exact HSo.out h w1 _ J f long hb hx
  have HAsk : Hid (E = 0 → 0 ≤ f ∧ 1 ≤ long) := fun h => by
    rcases so_cases a b c ns ls bx t0 t1 t2 mw lw f long with ⟨q, _, _⟩ | ⟨_, _, _, q, _⟩
    · exact absurd (hE.symm.trans h) q
    · exact ⟨q.1.1, q.2⟩
  clear hV hE hA hEa hBv hEb hJ hC hEc HSo
  generalize errAll ns.length [mw, bw] = eo at *
  go_enter Tryz.func6, Tryz.ntmps6
  go_wp2_with fail
  rw [HW.out]
  refine HA.out.mono ?_
  rintro e w1 ⟨rfl, hT1⟩
  obtain ⟨p0, p1, p2, p3, p4, hz⟩ := hK.yard hT1
  go_wp2_with fail
  refine (HG.out _ hT1).mono ?_
  rintro e w2 ⟨rfl, hB2⟩
  clear p0 p1 p2 p3 p4 hz
  have hT2 := then_below hT1 hB2
  clear hT1 hB2
  cases gr
  case true =>
    clear HSt HSo1 HSo2 HSo3 HSo4 HX HZ HO HAsk HMw
    generalize mw.length = mn at *
    generalize lw.length = ln at *
    generalize bw.length = bn at *
    generalize ns.length = nn at *
    generalize ls.length = ll at *
    go_wp2
    go_ret
    exact ⟨rfl, then_below hB hT2⟩
  case false =>
    have hst := HSt.out rfl
    have HR1 : Hid (∀ w1, Below W.heap.size W w1 → Wds w1 (.slice am mw.length cm) mw → Calls Tryz.prog 10 #[Y5 a b c (.slice an ns.length cn) (.slice al ls.length cl), P9 bx t0 t1 t2, .slice am mw.length cm, .slice ak lw.length ck, I f, I long] w1 fun e W' => e = .returned (.tuple #[I V, I E]) ∧ Below w1.heap.size w1 W') := HSo1.out hst
    have HR2 : Hid (∀ w1, Below W.heap.size W w1 → Wds w1 (.slice am mw.length cm) mw → Calls Tryz.prog 10 #[Y5 a b c (.slice an ns.length cn) (.slice al ls.length cl), P9 bx t0 t1 t2, .slice am mw.length cm, .slice ak lw.length ck, I f, I (long + more)] w1 fun e W' => e = .returned (.tuple #[I A, I Ea]) ∧ Below w1.heap.size w1 W') := HSo2.out hst
    have HR3 : Hid (∀ w1, Below W.heap.size W w1 → Wds w1 (.slice am mw.length cm) mw → Calls Tryz.prog 10 #[Y5 a b c (.slice an ns.length cn) (.slice al ls.length cl), P9 bx t0 t1 t2, .slice am mw.length cm, .slice ak lw.length ck, I (f + more), I long] w1 fun e W' => e = .returned (.tuple #[I Bv, I Eb]) ∧ Below w1.heap.size w1 W') := HSo3.out hst
    have HR4 : Hid (∀ w1 vx, Below W.heap.size W w1 → Wds w1 vx J → Calls Tryz.prog 10 #[Y5 a b c (.slice an ns.length cn) (.slice al ls.length cl), P9 bx t0 t1 t2, vx, .slice ak lw.length ck, I f, I long] w1 fun e W' => e = .returned (.tuple #[I C, I Ec]) ∧ Below w1.heap.size w1 W') := HSo4.out hst
    clear HSt HSo1 HSo2 HSo3 HSo4 hst
    generalize hmn : mw.length = mn at *
    generalize lw.length = ln at *
    generalize bw.length = bn at *
    generalize ns.length = nn at *
    generalize ls.length = ll at *
    clear hmn
    by_cases q0 : 100 < (mn : Int)
    · have d0 : decide (100 < (mn : Int)) = true := decide_eq_true q0
      clear HR1 HR2 HR3 HR4 HX HZ HO HAsk HMw q0
      go_wp2
      go_ret
      exact ⟨rfl, then_below hB hT2⟩
    have d0 : decide (100 < (mn : Int)) = false := decide_eq_false q0
    by_cases q1 : 100 < (ln : Int)
    · have d1 : decide (100 < (ln : Int)) = true := decide_eq_true q1
      clear HR1 HR2 HR3 HR4 HX HZ HO HAsk HMw q1
      go_wp2
      go_ret
      exact ⟨rfl, then_below hB hT2⟩
    have d1 : decide (100 < (ln : Int)) = false := decide_eq_false q1
    by_cases q2 : 100 < (bn : Int)
    · have d2 : decide (100 < (bn : Int)) = true := decide_eq_true q2
      clear HR1 HR2 HR3 HR4 HX HZ HO HAsk HMw q2
      go_wp2
      go_ret
      exact ⟨rfl, then_below hB hT2⟩
    have d2 : decide (100 < (bn : Int)) = false := decide_eq_false q2
    by_cases q3 : 1000000 < long
    · have d3 : decide (1000000 < long) = true := decide_eq_true q3
      clear HR1 HR2 HR3 HR4 HX HZ HO HAsk HMw q3
      go_wp2
      go_ret
      exact ⟨rfl, then_below hB hT2⟩
    have d3 : decide (1000000 < long) = false := decide_eq_false q3
    by_cases q4 : 1000000 < f
    · have d4 : decide (1000000 < f) = true := decide_eq_true q4
      clear HR1 HR2 HR3 HR4 HX HZ HO HAsk HMw q4
      go_wp2
      go_ret
      exact ⟨rfl, then_below hB hT2⟩
    have d4 : decide (1000000 < f) = false := decide_eq_false q4
    clear q0 q1 q2
    obtain ⟨p0, p1, p2, p3, p4, hz⟩ := hK.yard hT2
    obtain ⟨⟨x0, x1, x2⟩, ⟨x3, x4, x5⟩, ⟨x6, x7, x8⟩, hz1⟩ := hP.nine hT2
    go_wp2_with fail
    refine (HR1.out _ hT2 (HMw.out.later hT2)).mono ?_
    rintro e w3 ⟨rfl, hB3⟩
    have hT3 := then_below hT2 hB3
    clear p0 p1 p2 p3 p4 hz x0 x1 x2 x3 x4 x5 x6 x7 x8 hz1 hT2 hB3 d0 d1 d2 d3 d4
    by_cases h0 : E = 0
    case neg =>
      obtain rfl := HZ.out h0
      have z0 : (E != 0) = true := by simpa using h0
      clear HR1 HR2 HR3 HR4 HX HZ HO HAsk HMw h0 q3 q4
      go_wp2
      go_ret
      exact ⟨rfl, then_below hB hT3⟩
    case pos =>
      subst h0
      obtain ⟨hf, hl⟩ := HAsk.out (by trivial)
      obtain ⟨hXa, hXb, hXc⟩ := HX.out (by trivial) hmore.1 (by omega)
      have HXc : Hid (eo = 0 → Ec = 6 ∨ (Ec = 0 ∧ C = V)) := hXc
      have HXa : Hid (Ea = 6 ∨ (Ea = 0 ∧ V ≤ A)) := hXa
      have HXb : Hid (Eb = 6 ∨ (Eb = 0 ∧ V ≤ Bv)) := hXb
      have c1 : IntKind.i64.wrap more = more := by rw [IntKind.wrap_i64]; omega
      have c2 : wrap64 (long + more) = long + more := wrap_in _ (by omega)
      have c3 : wrap64 (f + more) = f + more := wrap_in _ (by omega)
      clear HX HZ HAsk hXa hXb hXc hf hl q3 q4 hmore
      obtain ⟨p0, p1, p2, p3, p4, hz⟩ := hK.yard hT3
      obtain ⟨⟨x0, x1, x2⟩, ⟨x3, x4, x5⟩, ⟨x6, x7, x8⟩, hz1⟩ := hP.nine hT3
      go_wp2_with fail
      refine (HR2.out _ hT3 (HMw.out.later hT3)).mono ?_
      rintro e w4 ⟨rfl, hB4⟩
      have hT4 := then_below hT3 hB4
      clear p0 p1 p2 p3 p4 hz x0 x1 x2 x3 x4 x5 x6 x7 x8 hz1 hT3 hB4
      obtain ⟨p0, p1, p2, p3, p4, hz⟩ := hK.yard hT4
      obtain ⟨⟨x0, x1, x2⟩, ⟨x3, x4, x5⟩, ⟨x6, x7, x8⟩, hz1⟩ := hP.nine hT4
      go_wp2_with fail
      refine (HR3.out _ hT4 (HMw.out.later hT4)).mono ?_
      rintro e w5 ⟨rfl, hB5⟩
      have hT5 := then_below hT4 hB5
      clear p0 p1 p2 p3 p4 hz x0 x1 x2 x3 x4 x5 x6 x7 x8 hz1 hT4 hB5 c1 c2 c3 HR1 HR2 HR3
      obtain ⟨p0, p1, p2, p3, p4, hz⟩ := hK.yard hT5
      rcases HXa.out with rfl | ⟨rfl, ha⟩
      · clear HXa
        rcases HXb.out with rfl | ⟨rfl, hb⟩
        · clear HXb
          go_wp2_with fail
          refine (HO.out _ hT5).mono ?_
          rintro e w6 ⟨u, rfl, hu, hB6⟩
          have HU : Hid (Wds w6 u J) := hu.wds
          have hT6 := then_below hT5 hB6
          clear hu hB6 hT5 p0 p1 p2 p3 p4 hz
          by_cases ho : eo = 0
          case neg =>
            have z1 : (eo != 0) = true := by simpa using ho
            clear HXc HR4 HMw ho
            go_wp2
            go_ret
            exact ⟨rfl, then_below hB hT6⟩
          case pos =>
            subst ho
            have hxc := HXc.out (by trivial)
            clear HXc
            obtain ⟨p0, p1, p2, p3, p4, hz⟩ := hK.yard hT6
            obtain ⟨⟨x0, x1, x2⟩, ⟨x3, x4, x5⟩, ⟨x6, x7, x8⟩, hz1⟩ := hP.nine hT6
            rcases hxc with rfl | ⟨rfl, rfl⟩
            · go_wp2_with fail
              refine (HR4.out _ _ hT6 HU.out).mono ?_
              rintro e w7 ⟨rfl, hB7⟩
              clear p0 p1 p2 p3 p4 hz x0 x1 x2 x3 x4 x5 x6 x7 x8 hz1
              go_wp2
              go_ret
              exact ⟨rfl, then_below hB (then_below hT6 hB7)⟩
            · go_wp2_with fail
              refine (HR4.out _ _ hT6 HU.out).mono ?_
              rintro e w7 ⟨rfl, hB7⟩
              clear p0 p1 p2 p3 p4 hz x0 x1 x2 x3 x4 x5 x6 x7 x8 hz1
              go_wp2
              go_ret
              exact ⟨by simp, then_below hB (then_below hT6 hB7)⟩
        · clear HXb
          have db : decide (Bv < V) = false := decide_eq_false (by omega)
          clear hb
          go_wp2_with fail
          refine (HO.out _ hT5).mono ?_
          rintro e w6 ⟨u, rfl, hu, hB6⟩
          have HU : Hid (Wds w6 u J) := hu.wds
          have hT6 := then_below hT5 hB6
          clear hu hB6 hT5 p0 p1 p2 p3 p4 hz
          by_cases ho : eo = 0
          case neg =>
            have z1 : (eo != 0) = true := by simpa using ho
            clear HXc HR4 HMw ho
            go_wp2
            go_ret
            exact ⟨rfl, then_below hB hT6⟩
          case pos =>
            subst ho
            have hxc := HXc.out (by trivial)
            clear HXc
            obtain ⟨p0, p1, p2, p3, p4, hz⟩ := hK.yard hT6
            obtain ⟨⟨x0, x1, x2⟩, ⟨x3, x4, x5⟩, ⟨x6, x7, x8⟩, hz1⟩ := hP.nine hT6
            rcases hxc with rfl | ⟨rfl, rfl⟩
            · go_wp2_with fail
              refine (HR4.out _ _ hT6 HU.out).mono ?_
              rintro e w7 ⟨rfl, hB7⟩
              clear p0 p1 p2 p3 p4 hz x0 x1 x2 x3 x4 x5 x6 x7 x8 hz1
              go_wp2
              go_ret
              exact ⟨rfl, then_below hB (then_below hT6 hB7)⟩
            · go_wp2_with fail
              refine (HR4.out _ _ hT6 HU.out).mono ?_
              rintro e w7 ⟨rfl, hB7⟩
              clear p0 p1 p2 p3 p4 hz x0 x1 x2 x3 x4 x5 x6 x7 x8 hz1
              go_wp2
              go_ret
              exact ⟨by simp, then_below hB (then_below hT6 hB7)⟩
      · clear HXa
        have da : decide (A < V) = false := decide_eq_false (by omega)
        clear ha
        rcases HXb.out with rfl | ⟨rfl, hb⟩
        · clear HXb
          go_wp2_with fail
          refine (HO.out _ hT5).mono ?_
          rintro e w6 ⟨u, rfl, hu, hB6⟩
          have HU : Hid (Wds w6 u J) := hu.wds
          have hT6 := then_below hT5 hB6
          clear hu hB6 hT5 p0 p1 p2 p3 p4 hz
          by_cases ho : eo = 0
          case neg =>
            have z1 : (eo != 0) = true := by simpa using ho
            clear HXc HR4 HMw ho
            go_wp2
            go_ret
            exact ⟨rfl, then_below hB hT6⟩
          case pos =>
            subst ho
            have hxc := HXc.out (by trivial)
            clear HXc
            obtain ⟨p0, p1, p2, p3, p4, hz⟩ := hK.yard hT6
            obtain ⟨⟨x0, x1, x2⟩, ⟨x3, x4, x5⟩, ⟨x6, x7, x8⟩, hz1⟩ := hP.nine hT6
            rcases hxc with rfl | ⟨rfl, rfl⟩
            · go_wp2_with fail
              refine (HR4.out _ _ hT6 HU.out).mono ?_
              rintro e w7 ⟨rfl, hB7⟩
              clear p0 p1 p2 p3 p4 hz x0 x1 x2 x3 x4 x5 x6 x7 x8 hz1
              go_wp2
              go_ret
              exact ⟨rfl, then_below hB (then_below hT6 hB7)⟩
            · go_wp2_with fail
              refine (HR4.out _ _ hT6 HU.out).mono ?_
              rintro e w7 ⟨rfl, hB7⟩
              clear p0 p1 p2 p3 p4 hz x0 x1 x2 x3 x4 x5 x6 x7 x8 hz1
              go_wp2
              go_ret
              exact ⟨by simp, then_below hB (then_below hT6 hB7)⟩
        · clear HXb
          have db : decide (Bv < V) = false := decide_eq_false (by omega)
          clear hb
          go_wp2_with fail
          refine (HO.out _ hT5).mono ?_
          rintro e w6 ⟨u, rfl, hu, hB6⟩
          have HU : Hid (Wds w6 u J) := hu.wds
          have hT6 := then_below hT5 hB6
          clear hu hB6 hT5 p0 p1 p2 p3 p4 hz
          by_cases ho : eo = 0
          case neg =>
            have z1 : (eo != 0) = true := by simpa using ho
            clear HXc HR4 HMw ho
            go_wp2
            go_ret
            exact ⟨rfl, then_below hB hT6⟩
          case pos =>
            subst ho
            have hxc := HXc.out (by trivial)
            clear HXc
            obtain ⟨p0, p1, p2, p3, p4, hz⟩ := hK.yard hT6
            obtain ⟨⟨x0, x1, x2⟩, ⟨x3, x4, x5⟩, ⟨x6, x7, x8⟩, hz1⟩ := hP.nine hT6
            rcases hxc with rfl | ⟨rfl, rfl⟩
            · go_wp2_with fail
              refine (HR4.out _ _ hT6 HU.out).mono ?_
              rintro e w7 ⟨rfl, hB7⟩
              clear p0 p1 p2 p3 p4 hz x0 x1 x2 x3 x4 x5 x6 x7 x8 hz1
              go_wp2
              go_ret
              exact ⟨rfl, then_below hB (then_below hT6 hB7)⟩
            · go_wp2_with fail
              refine (HR4.out _ _ hT6 HU.out).mono ?_
              rintro e w7 ⟨rfl, hB7⟩
              clear p0 p1 p2 p3 p4 hz x0 x1 x2 x3 x4 x5 x6 x7 x8 hz1
              go_wp2
              go_ret
              exact ⟨by simp, then_below hB (then_below hT6 hB7)⟩
end Go.Proofs.YtldcagjnngkabaaGreatDoor

/-
  A place is free of what is busy through a span, just if none of what it takes is.
-/
import Derived.Test.YtldcagjnngkabaaGreatDoorPart30
import Derived.Test.YtldcagjnngkabaaGreatDoorLawFreeNames
import Derived.Test.YtldcagjnngkabaaGreatDoorPart9
import Derived.Laws.AppendOwn
import Derived.Laws.AppendOwnNone
import Derived.Test.YtldcagjnngkabaaGreatDoorPart27
import Derived.ChangeSlices
import Derived.Test.YtldcagjnngkabaaGreatDoorPart28
import Derived.Test.YtldcagjnngkabaaGreatDoorPart23
import Derived.ChangeSame
import Derived.ChangeArms
import Derived.Test.YtldcagjnngkabaaGreatDoorPart10
import Derived.Test.YtldcagjnngkabaaGreatDoorRows
import Derived.ProofKit
import Derived.LaidMore
import Derived.OpenShut
import Derived.Stop.Joined
import Derived.Lib.LaidTab
import Derived.SevenTiedAt
namespace Go.Proofs.YtldcagjnngkabaaGreatDoor
open Go Go.RowKit Go.Shelf

theorem well_free {a b c : Int} {ns ls : List (List Slt)} (hm : mayY a b c ns ls) (bx : Bx) (t0 t1 t2 : Bool) {f t : Int} (h : f < t) :
    wellB a b c bx t0 t1 t2 (setOf ns.length (busyP ns f t)) (setOf ls.length (busyP ls f t)) = freeP ns ls (midP a b c bx) (cabP a b c bx t0 t1 t2) f t := by
  obtain ⟨h1, h2, h3⟩ := hm.bd
  have hn : (a * b * c).toNat = ns.length := by rw [← hm.2.1]; simp
  refine bool_ext ?_
  unfold wellB
  rw [hn, ← h3, Bool.and_eq_true, offW_iff, offW_iff, freeP_iff hm.2.2.2.1 hm.2.2.2.2 h]
  have key : ∀ (cs : List (List Slt)) (p : Nat → Bool), maysC cs = true → ((∀ k, k < cs.length → p k = true → hasW (setOf cs.length (busyP cs f t)) k = false) ↔ ∀ k, p k = true → busyP cs f t k = false) := fun cs p hc => by
    constructor
    · intro q k hp
      by_cases hk : k < cs.length
      · have := q k hk hp
        rw [(setOf_is cs.length (busyP cs f t)).has] at this
        simpa [hk] using this
      · exact busy_out hc h hk
    · intro q k hk hp
      rw [(setOf_is cs.length (busyP cs f t)).has, q k hp]
      simp
  rw [key ns _ hm.2.2.2.1, key ls _ hm.2.2.2.2]

end Go.Proofs.YtldcagjnngkabaaGreatDoor

/-
  The statements of layer 11: at: whether a place is free from a moment on, so long.
-/
namespace Go.Proofs.YtldcagjnngkabaaGreatDoor
open Go Go.RowKit Go.Shelf

attribute [local go_sem] Oper.semAt_some ext_const

/-- A set that may be, with more that is asked: no number that is asked for is in either. -/
theorem off_or (n : Nat) (p q : Nat → Bool) (ws : List Nat) : offW n p (setOf n (fun k => q k || hasW ws k)) = (offW n p (setOf n q) && offW n p ws) := by
  refine bool_ext ?_
  rw [Bool.and_eq_true, offW_iff, offW_iff, offW_iff]
  constructor
  · intro h
    refine ⟨fun k hk hp => ?_, fun k hk hp => ?_⟩
    · have := h k hk hp
      rw [(setOf_is n _).has] at this ⊢
      simp [hk] at this ⊢
      exact this.1
    · have := h k hk hp
      rw [(setOf_is n _).has] at this
      simp [hk] at this
      exact this.2
  · rintro ⟨h, g⟩ k hk hp
    have h3 := h k hk hp
    have h4 := g k hk hp
    rw [(setOf_is n _).has] at h3 ⊢
    simp [hk] at h3 ⊢
    exact ⟨h3, h4⟩
theorem may_setOf {n : Nat} (h1 : 1 ≤ n) (h2 : n ≤ 4096) (p q : Nat → Bool) : mayW n (setOf n p) (setOf (3 * n : Nat) q) = true := by
  have e1 := errAll_one h1 (by omega) (setOf n p)
  have e2 := errAll_one (n := 3 * n) (by omega) (by omega) (setOf (3 * n : Nat) q)
  rw [setOf_err (by omega) (by omega)] at e1 e2
  unfold mayW
  cases q1 : maySet n (setOf n p)
  · rw [q1] at e1; cases e1
  · cases q2 : maySet (3 * n) (setOf (3 * n : Nat) q)
    · rw [q2] at e2; cases e2
    · rfl

/-- What at comes to, where all may be: free of what is busy, and of what is bad. -/
theorem hold_busy {a b c : Int} {ns ls : List (List Slt)} {mw lw : List Nat} (hm : mayY a b c ns ls) {bx : Bx} {t0 t1 t2 : Bool} (hp : errP a b c bx t0 t1 t2 = 0) {f t : Int} (h : f < t) :
    hoE a b c bx t0 t1 t2 (setOf ns.length (fun k => busyP ns f t k || hasW mw k)) (setOf ls.length (fun k => busyP ls f t k || hasW lw k)) = 0 ∧
    hoB a b c bx t0 t1 t2 (setOf ns.length (fun k => busyP ns f t k || hasW mw k)) (setOf ls.length (fun k => busyP ls f t k || hasW lw k)) = (freeP ns ls (midP a b c bx) (cabP a b c bx t0 t1 t2) f t && wellB a b c bx t0 t1 t2 mw lw) := by
  obtain ⟨h1, h2, h3⟩ := hm.bd
  have hn : (a * b * c).toNat = ns.length := by rw [← hm.2.1]; simp
  have e0 : hoE a b c bx t0 t1 t2 (setOf ns.length (fun k => busyP ns f t k || hasW mw k)) (setOf ls.length (fun k => busyP ls f t k || hasW lw k)) = 0 := by
    rw [hoE, if_pos hp, hn, h3, may_setOf h1 h2]; rfl
  refine ⟨e0, ?_⟩
  rw [hoB, e0, decide_eq_true rfl, Bool.true_and, ← well_free hm bx t0 t1 t2 h]
  unfold wellB
  rw [hn, h3]
  rw [off_or, off_or]
  cases offW ns.length (midP a b c bx) (setOf ns.length (busyP ns f t)) <;> cases offW (3 * ns.length) (cabP a b c bx t0 t1 t2) (setOf (3 * ns.length : Nat) (busyP ls f t)) <;> cases offW ns.length (midP a b c bx) mw <;> rfl

set_option maxRecDepth 100000 in
set_option maxHeartbeats 8000000 in
theorem at11_calls {a b c f long : Int} {n l vm vl : Value} {ns ls : List (List Slt)} {mw lw : List Nat} {bx : Bx} {t0 t1 t2 : Bool} (w : World) (hN : Yl w n ns) (hL : Yl w l ls) (hM : Wds w vm mw) (hK : Wds w vl lw) (hm : mayY a b c ns ls) (hp : errP a b c bx t0 t1 t2 = 0) (hw : mayW ns.length mw lw = true) (h0 : 0 ≤ f) (hl : 1 ≤ long) (hM2 : f + long ≤ 1099511627776) :
    Calls Tryz.prog 21 #[Y5 a b c n l, P9 bx t0 t1 t2, vm, vl, I f, I long] w fun e W' => e = .returned (.bool (freeP ns ls (midP a b c bx) (cabP a b c bx t0 t1 t2) f (f + long) && wellB a b c bx t0 t1 t2 mw lw)) ∧ Below w.heap.size w W' := by
  obtain ⟨z1, z2⟩ := hold_busy (mw := mw) (lw := lw) hm hp (show f < f + long by omega)
  rw [← z2]
  have hsp : maySp f (f + long) := ⟨h0, by omega, hM2⟩
  have eA : avE a b c ns ls mw lw f (f + long) = 0 := by
    rw [avE, busyE, if_pos (mayYB_iff.2 hm), if_pos ((maySpB_iff _ _).2 hsp), if_pos rfl, hw]; rfl
  obtain ⟨W, hW, hB0, k0, k1⟩ := two_start w (K5 a b c n l) (C9 bx t0 t1 t2) 26 43
  have HW : Hid ((w.alloc (.cells (K5 a b c n l) 26)).alloc (.cells (C9 bx t0 t1 t2) 43) = W) := hW
  have HA : Hid (Calls Tryz.prog 9 #[Y5 a b c n l, vm, vl, S2 f (f + long)] W fun e W' => ∃ u v, e = .returned (.tuple #[u, v, I 0]) ∧ SetR W' W.heap.size u (setOf ns.length (fun k => busyP ns f (f + long) k || hasW mw k)) ∧ SetR W' W.heap.size v (setOf ls.length (fun k => busyP ls f (f + long) k || hasW lw k)) ∧ Below W.heap.size W W') := by
    have := avoid_calls (a := a) (b := b) (c := c) (x := f) (y := f + long) W (hN.later hB0) (hL.later hB0) (hM.later hB0) (hK.later hB0)
    rw [eA] at this
    exact this
  have HH : Hid (∀ w' u v, Wds w' u (setOf ns.length (fun k => busyP ns f (f + long) k || hasW mw k)) → Wds w' v (setOf ls.length (fun k => busyP ls f (f + long) k || hasW lw k)) → Calls Tryz.prog 12 #[A3 a b c, P9 bx t0 t1 t2, u, v] w' fun e W' => e = .returned (.tuple #[.bool (hoB a b c bx t0 t1 t2 (setOf ns.length (fun k => busyP ns f (f + long) k || hasW mw k)) (setOf ls.length (fun k => busyP ls f (f + long) k || hasW lw k))), I 0]) ∧ Below w'.heap.size w' W') := fun w' u v q1 q2 => by
    have := holds_calls (a := a) (b := b) (c := c) (bx := bx) t0 t1 t2 w' q1 q2
    rw [z1] at this
    exact this
  have hwr : wrap64 (f + long) = f + long := wrap_in _ (by omega)
  obtain ⟨_, _, rfl, _⟩ := hN.form
  obtain ⟨_, _, rfl, _⟩ := hL.form
  obtain ⟨_, _, _, rfl⟩ := hM.form
  obtain ⟨_, _, _, rfl⟩ := hK.form
  clear z1 z2 eA hsp hW hN hL hM hK hm hp hw h0 hl hM2
  generalize hoB a b c bx t0 t1 t2 (setOf ns.length (fun k => busyP ns f (f + long) k || hasW mw k)) (setOf ls.length (fun k => busyP ls f (f + long) k || hasW lw k)) = r at *
  generalize setOf ns.length (fun k => busyP ns f (f + long) k || hasW mw k) = S1 at *
  generalize setOf ls.length (fun k => busyP ls f (f + long) k || hasW lw k) = S2' at *
  generalize ns.length = n1 at *
  generalize ls.length = n2 at *
  obtain ⟨p0, p1, p2, p3, p4, hz⟩ := k0.five
  go_enter Tryz.func21, Tryz.ntmps21
  go_wp2_with fail
  rw [HW.out]
  refine HA.out.mono ?_
  rintro e w1 ⟨u, v, rfl, hu, hv, hT⟩
  have HU : Hid (Wds w1 u S1) := hu.wds
  have HV : Hid (Wds w1 v S2') := hv.wds
  clear hu hv p0 p1 p2 p3 p4 hz
  obtain ⟨p0, p1, p2, p3, p4, hz⟩ := k0.yard hT
  obtain ⟨⟨x0, x1, x2⟩, ⟨x3, x4, x5⟩, ⟨x6, x7, x8⟩, hz1⟩ := k1.nine hT
  go_wp2_with fail
  refine (HH.out _ _ _ HU.out HV.out).mono ?_
  rintro e w2 ⟨rfl, hT2⟩
  clear p0 p1 p2 p3 p4 hz x0 x1 x2 x3 x4 x5 x6 x7 x8 hz1
  go_wp2
  go_ret
  exact ⟨rfl, then_below hB0 (then_below hT hT2)⟩

end Go.Proofs.YtldcagjnngkabaaGreatDoor

/-
  What free.Soon's answers say.
-/
namespace Go.Proofs.YtldcagjnngkabaaGreatDoor
open Go Go.RowKit Go.Shelf

/-- What Soon's answer says: refused otherwise than by ErrNone; or all may be: nothing bad is taken, and there is a least moment; or else there is none. -/
theorem so_cases (a b c : Int) (ns ls : List (List Slt)) (bx : Bx) (t0 t1 t2 : Bool) (mw lw : List Nat) (f long : Int) :
    (soE a b c ns ls bx t0 t1 t2 mw lw f long ≠ 0 ∧ soE a b c ns ls bx t0 t1 t2 mw lw f long ≠ 6 ∧ soV a b c ns ls bx t0 t1 t2 mw lw f long = 0) ∨
    (mayY a b c ns ls ∧ errP a b c bx t0 t1 t2 = 0 ∧ mayW ns.length mw lw = true ∧ ((0 ≤ f ∧ f < 1099511627776) ∧ 1 ≤ long) ∧
      ((soE a b c ns ls bx t0 t1 t2 mw lw f long = 6 ∧ soV a b c ns ls bx t0 t1 t2 mw lw f long = 0 ∧ (wellB a b c bx t0 t1 t2 mw lw = false ∨ soonT ns ls (midP a b c bx) (cabP a b c bx t0 t1 t2) f long = none)) ∨
       (soE a b c ns ls bx t0 t1 t2 mw lw f long = 0 ∧ wellB a b c bx t0 t1 t2 mw lw = true ∧ soonT ns ls (midP a b c bx) (cabP a b c bx t0 t1 t2) f long = some (soV a b c ns ls bx t0 t1 t2 mw lw f long)))) := by
  by_cases hm : mayY a b c ns ls
  · have hn : (a * b * c).toNat = ns.length := by rw [← hm.2.1]; simp
    unfold soE soV
    rw [if_pos (mayYB_iff.2 hm), if_pos (mayYB_iff.2 hm), hn]
    by_cases hp : errP a b c bx t0 t1 t2 = 0
    · rw [if_pos hp, if_pos hp]
      cases hw : mayW ns.length mw lw
      · left; simp [goE, goV]
      · cases hk : askB f long
        · left; simp [goE, goV]
        · refine .inr ⟨hm, hp, rfl, askB_iff.1 hk, ?_⟩
          cases hwell : wellB a b c bx t0 t1 t2 mw lw
          · left; simp [goE, goV]
          · cases hs : soonT ns ls (midP a b c bx) (cabP a b c bx t0 t1 t2) f long with
            | none => left; simp [goE, goV, errO, valO]
            | some v => right; simp [goE, goV, errO, valO]
    · rw [if_neg hp, if_neg hp]
      left
      rcases errP_cases a b c bx t0 t1 t2 with ⟨_, _, h⟩ | ⟨h | h, _⟩
      · exact absurd h hp
      · rw [h]; simp
      · rw [h]; simp
  · unfold soE soV
    rw [mayYB_no hm]
    left; simp

end Go.Proofs.YtldcagjnngkabaaGreatDoor

/-
  A set among the arguments: as it came in, and a copy of it.
-/
namespace Go.Proofs.YtldcagjnngkabaaGreatDoor
open Go Go.RowKit Go.Shelf

/-- A row of words that came in. -/
def ArgW (W : World) (v : Value) (ws : List Nat) : Prop := Wds W v ws ∧ (v = .slice none 0 0 ∨ ∃ ad cap, v = .slice (some ad) ws.length cap)
def ArgI (W : World) (v : Value) (xs : List Int) : Prop := Its W v xs ∧ (v = .slice none 0 0 ∨ ∃ ad cap, v = .slice (some ad) xs.length cap)

theorem owns_wds {W : World} {base : Nat} {v : Value} {ws : List Nat} (hw : ∀ x ∈ ws, x < 18446744073709551616) (h : W.ownsRow base 34 1 v ws.length (ws.map U)) : Wds W v ws := by
  obtain ⟨h1, h2⟩ := h
  refine ⟨hw, ?_⟩
  rcases h2 with ⟨rfl, hn⟩ | ⟨g, cap, cur, rfl, hg, hh, hc, hc2, hs, ht⟩
  · have : ws = [] := List.length_eq_zero_iff.1 hn
    subst this
    exact Sl.nil W
  · refine ⟨_, cap, by simp, fun k hk => ⟨g, 0, rfl, (Array.getElem?_eq_some_iff.1 hh).1, ?_⟩⟩
    have hb : Blk W g 34 cur := hh
    rw [Nat.zero_add, hb.cell k]
    have := congrArg (fun l => l[k]?) ht
    simp only [Nat.mul_one] at this
    rw [List.length_map] at hk
    rw [List.getElem?_take_of_lt hk, Array.getElem?_toList] at this
    exact this

/-- 'own = append(own, s...)', own nil. -/
theorem wpList_copy {ops : Array Oper} {rest : List Oper} {o : Oper} {a : Act} {Q : Exit → Act → World → Prop} {W : World} {v : Value} {ws : List Nat} (hgd : o.guard = none) (s x : Operand)
    (ho : o.op = .call { callee := .builtin .append, args := #[s, x], argTypes := #[30, 30] }) (hs : a.eval s = .slice none 0 0) (hx : a.eval x = v)
    (hA : ArgW W v ws) (hl : ws.length ≤ 1000)
    (h : ∀ v' w', Wds w' v' ws → Below W.heap.size W w' → wpList Tryz.prog ops Q rest (a.put o.dst v') w') : wpList Tryz.prog ops Q (o :: rest) a W := by
  obtain ⟨i0, hi, hz0, hz1, hz2⟩ := info_parts info_u64
  obtain ⟨hW, rfl | ⟨ad, cap, rfl⟩⟩ := hA
  · have e : ws = [] := by
      obtain ⟨ao, c, e, _⟩ := hW.view
      simp only [Value.slice.injEq] at e
      exact List.length_eq_zero_iff.1 e.2.1.symm
    subst e
    exact wpList_append_own_none hgd s x 30 ho W.heap.size 34 i0 1 Tryz.underlying30 hi (.slice none 0 0) 0 [] hs (World.ownsRow_nil _ _ _ _) hx (h _ _ (Wds.nil W) (Below.refl _ _))
  · refine wpList_append_own (w := W) hgd s x 30 ho W.heap.size 34 i0 (.int .u64 0) 1 8 Tryz.underlying30 hi hz0 hz1 hz2 rfl (by decide) (.slice none 0 0) 0 [] hs (World.ownsRow_nil _ _ _ _) ad ws.length cap (ws.map U) hx (by simp) ?_ ?_ ?_ ?_ ?_ ?_
    · intro j u hj
      obtain ⟨ao, c, e, hv⟩ := hW.view
      simp only [Value.slice.injEq] at e
      obtain ⟨rfl, -, -⟩ := e
      have hjl : j < ws.length := by
        have := (List.getElem?_eq_some_iff.1 hj).1
        simpa using this
      obtain ⟨g, off, e, hg, hc⟩ := hv j hjl
      simp only [Option.some.injEq] at e
      subst e
      have : (⟨g, off, none⟩ : Addr).add j = ⟨g, off + j, none⟩ := by
        unfold Addr.add
        split
        · rename_i h0; subst h0; rfl
        · rfl
      rw [this, hc, ← hj]
      simp [hjl]
    · intro u hu
      obtain ⟨y, _, rfl⟩ := List.mem_map.1 hu
      rfl
    · unfold maxLen; omega
    · omega
    · omega
    · intro v' w1 hown' hgrow _
      refine h v' w1 (owns_wds hW.1 (by simpa using hown')) ?_
      exact (Below.refl _ W).grown hgrow (Nat.le_refl _) (fun k hk => by cases hk)

end Go.Proofs.YtldcagjnngkabaaGreatDoor

/-
  How a set, and a list of whole numbers, among a statement's arguments is opened.
-/
namespace Go.Proofs.YtldcagjnngkabaaGreatDoor
open Go Go.ChangeShapes Go.WideShapes Go.ChangeAt Go.RowKit

theorem spot_none {w : World} {a : Addr} {v : Value} (h : w.cell? a = some v) : a.spot = none := by
  unfold World.cell? at h
  split at h
  · split at h
    · cases h
    · rename_i hs
      cases hq : a.spot
      · rfl
      · rw [hq] at hs; exact absurd rfl hs
  · cases h
theorem block_lt {w : World} {a : Addr} {v : Value} (h : w.cell? a = some v) : a.block < w.heap.size := by
  unfold World.cell? at h
  split at h
  · rename_i hs
    exact (Array.getElem?_eq_some_iff.1 hs).1
  · cases h

set_option maxRecDepth 100000 in
/-- A slice of numbers of one kind, as it came in. -/
theorem open_row_of {P : Program} {w : World} {H : Type} {enc : TypeId × Value → H} {r : Reach} {b0 base : Nat} {spare : Nat → Bool} {held : Bool} {t e : TypeId} {k : IntKind} {v : Value} {d : DataW H} {p : List MemPlace}
    (ht : P.underlying t = some (.slice e)) (he : P.underlying e = some (.int k)) (hc : P.cellsOf e = 1)
    (hv : Value.okWide P w r b0 t v) (h : DataW.Trod enc P w base spare held t v d p) :
    ∃ zs : List Int, (∀ z ∈ zs, (Lit.int k z).wf = true) ∧ Sl w v (zs.map (Value.int k)) ∧ (v = .slice none 0 0 ∧ zs = [] ∨ ∃ ad cap, v = .slice (some ad) zs.length cap) := by
  obtain ⟨a, len, cap, rfl⟩ := okWide_slice ht hv
  obtain ⟨fuel, hf⟩ := h
  rcases open_ints ht he hc hf with ⟨hcs, -⟩ | ⟨a0, len0, cap0, zs, hcs, _, hl, _, hz, _, hcell, hwf⟩
  · have e0 : Value.slice a len cap = .slice none 0 0 := by
      have : [Value.slice a len cap] = [.slice none 0 0] := hcs
      exact List.head_eq_of_cons_eq this
    rw [e0]
    exact ⟨[], fun _ h => (by cases h), Sl.nil w, .inl ⟨rfl, rfl⟩⟩
  · have e0 : Value.slice a len cap = .slice (some a0) len0 cap0 := by
      have : [Value.slice a len cap] = [.slice (some a0) len0 cap0] := hcs
      exact List.head_eq_of_cons_eq this
    rw [e0]
    have hlz : len0 ≤ zs.length := by rw [hz]; split <;> omega
    have hlt : (zs.take len0).length = len0 := by simp [hlz]
    refine ⟨zs.take len0, fun z hz' => hwf z (List.mem_of_mem_take hz'), ⟨some a0, cap0, by simp [hlz], fun i hi => ?_⟩, .inr ⟨a0, cap0, by rw [hlt]⟩⟩
    rw [List.length_map, hlt] at hi
    have hi2 : i < zs.length := by omega
    have c0 := hcell i hi2
    have cc := hcell 0 (by omega)
    obtain ⟨g, off, sp⟩ := a0
    have hs : sp = none := by
      have := spot_none cc
      simpa [Addr.add] using this
    subst hs
    have ea : (⟨g, off, none⟩ : Addr).add i = ⟨g, off + i, none⟩ := by
      unfold Addr.add
      split
      · rename_i h0; subst h0; rfl
      · rfl
    rw [ea] at c0
    exact ⟨g, off, rfl, block_lt c0, by rw [c0]; simp [hi, hi2]⟩

theorem word_of {z : Int} (h : (Lit.int .u64 z).wf = true) : 0 ≤ z ∧ z < 18446744073709551616 := by
  unfold Lit.wf at h
  simp [IntKind.min, IntKind.max, IntKind.signed, IntKind.bits] at h
  omega

set_option maxRecDepth 100000 in
theorem open_set {w : World} {H : Type} {enc : TypeId × Value → H} {r : Reach} {b0 base : Nat} {spare : Nat → Bool} {held : Bool} {v : Value} {d : DataW H} {p : List MemPlace}
    (hv : Value.okWide Tryz.prog w r b0 30 v) (h : DataW.Trod enc Tryz.prog w base spare held 30 v d p) : ∃ ws : List Nat, ArgW w v ws := by
  obtain ⟨zs, hw, hs, hc⟩ := open_row_of Tryz.underlying30 Tryz.underlying34 (by kernel_rfl) hv h
  have e : (zs.map Int.toNat).map U = zs.map (Value.int .u64) := by
    rw [List.map_map]
    apply List.map_congr_left
    intro z hz
    have := word_of (hw z hz)
    show Value.int .u64 ((z.toNat : Nat) : Int) = _
    rw [Int.toNat_of_nonneg this.1]
  refine ⟨zs.map Int.toNat, ⟨fun x hx => ?_, by rw [e]; exact hs⟩, ?_⟩
  · obtain ⟨z, hz, rfl⟩ := List.mem_map.1 hx
    have := word_of (hw z hz)
    omega
  · rcases hc with ⟨rfl, _⟩ | ⟨ad, cap, rfl⟩
    · exact .inl rfl
    · exact .inr ⟨ad, cap, by simp⟩

set_option maxRecDepth 100000 in
theorem open_list {w : World} {H : Type} {enc : TypeId × Value → H} {r : Reach} {b0 base : Nat} {spare : Nat → Bool} {held : Bool} {v : Value} {d : DataW H} {p : List MemPlace}
    (hv : Value.okWide Tryz.prog w r b0 76 v) (h : DataW.Trod enc Tryz.prog w base spare held 76 v d p) : ∃ xs : List Int, ArgI w v xs ∧ ∀ x ∈ xs, (Lit.int .i64 x).wf = true := by
  obtain ⟨zs, hw, hs, hc⟩ := open_row_of Tryz.underlying76 Tryz.underlying3 (by kernel_rfl) hv h
  refine ⟨zs, ⟨hs, ?_⟩, hw⟩
  rcases hc with ⟨rfl, _⟩ | h
  · exact .inl rfl
  · exact .inr h

end Go.Proofs.YtldcagjnngkabaaGreatDoor

/-
  FreeSoon: the walk.
-/
namespace Go.Proofs.YtldcagjnngkabaaGreatDoor
open Go Go.RowKit Go.Shelf

attribute [local go_sem] Oper.semAt_some ext_const

set_option maxRecDepth 100000 in
set_option maxHeartbeats 32000000 in
theorem freeSoon_walk (a b c : Int) (bx : Bx) (t0 t1 t2 : Bool) (f long o : Int) (w : World) (hTab : TabOk w) {n l vm vk : Value} {ns ls : List (List Slt)} {mw lw : List Nat} (hN : Yl w n ns) (hL : Yl w l ls) (bN : Lids ns) (bL : Lids ls) (hM : ArgW w vm mw) (hK' : ArgW w vk lw)
    (_wf : (Lit.int .i64 f).wf = true) (_wl : (Lit.int .i64 long).wf = true) (_wo : (Lit.int .i64 o).wf = true) :
    Calls Tryz.prog 5 #[Y5 a b c n l, P9 bx t0 t1 t2, vm, vk, I f, I long, I o] w fun e W' => e = .returned (.bool true) ∧ Below w.heap.size w W' := by
  obtain ⟨W, hW, hB, hK, hP⟩ := two_start w (K5 a b c n l) (C9 bx t0 t1 t2) 26 43
  have HW : Hid ((w.alloc (.cells (K5 a b c n l) 26)).alloc (.cells (C9 bx t0 t1 t2) 43) = W) := hW
  have hM := hM.1
  have hK' := hK'.1
  have HA : Hid (Calls Tryz.prog 13 #[] W fun e W' => e = .returned (.bool true) ∧ Below W.heap.size W W') := alive11_calls W (hTab.later hB)
  have HG : Hid (∀ w1, Below W.heap.size W w1 → Calls Tryz.prog 15 #[Y5 a b c n l] w1 fun e W' => e = .returned (.bool (greatB ns ls)) ∧ Below w1.heap.size w1 W') := fun w1 hb => great_calls w1 (hN.later (then_below hB hb)) (hL.later (then_below hB hb)) bN bL
  have HSo : Hid ((slotsY ns ls).length ≤ 10000 → ∀ w1, Below W.heap.size W w1 → Calls Tryz.prog 10 #[Y5 a b c n l, P9 bx t0 t1 t2, vm, vk, I f, I long] w1 fun e W' => e = .returned (.tuple #[I (soV a b c ns ls bx t0 t1 t2 mw lw f long), I (soE a b c ns ls bx t0 t1 t2 mw lw f long)]) ∧ Below w1.heap.size w1 W') := fun h w1 hb => soon_calls t0 t1 t2 w1 (hTab.later (then_below hB hb)) (hN.later (then_below hB hb)) (hL.later (then_below hB hb)) (hM.later (then_below hB hb)) (hK'.later (then_below hB hb)) (by omega)
  have HAt : Hid (mayY a b c ns ls → errP a b c bx t0 t1 t2 = 0 → mayW ns.length mw lw = true → ∀ m, 0 ≤ m → 1 ≤ long → m + long ≤ 1099511627776 → ∀ w1, Below W.heap.size W w1 → Calls Tryz.prog 21 #[Y5 a b c n l, P9 bx t0 t1 t2, vm, vk, I m, I long] w1 fun e W' => e = .returned (.bool (freeP ns ls (midP a b c bx) (cabP a b c bx t0 t1 t2) m (m + long) && wellB a b c bx t0 t1 t2 mw lw)) ∧ Below w1.heap.size w1 W') := fun hm hp hw m h0 h1 h2 w1 hb => at11_calls w1 (hN.later (then_below hB hb)) (hL.later (then_below hB hb)) (hM.later (then_below hB hb)) (hK'.later (then_below hB hb)) hm hp hw h0 h1 h2
  obtain ⟨an, cn, rfl, _⟩ := hN.form
  obtain ⟨al, cl, rfl, _⟩ := hL.form
  obtain ⟨am, cm, rfl, _⟩ := hM.view
  obtain ⟨ak, ck, rfl, _⟩ := hK'.view
  obtain ⟨gr, hgr⟩ : ∃ gr, gr = greatB ns ls := ⟨_, rfl⟩
  rw [← hgr] at HG
  have HSt : Hid (gr = false → (slotsY ns ls).length ≤ 10000) := fun h => slots_small bN bL (hgr ▸ h)
  have hc := so_cases a b c ns ls bx t0 t1 t2 mw lw f long
  have HC : Hid ((soE a b c ns ls bx t0 t1 t2 mw lw f long ≠ 0 ∧ soE a b c ns ls bx t0 t1 t2 mw lw f long ≠ 6 ∧ soV a b c ns ls bx t0 t1 t2 mw lw f long = 0) ∨
    ((0 ≤ f ∧ 1 ≤ long) ∧ (∀ m, f ≤ m → m + long ≤ 1099511627776 → (soE a b c ns ls bx t0 t1 t2 mw lw f long = 6 ∨ m < soV a b c ns ls bx t0 t1 t2 mw lw f long) → ∀ w1, Below W.heap.size W w1 → Calls Tryz.prog 21 #[Y5 a b c (.slice an ns.length cn) (.slice al ls.length cl), P9 bx t0 t1 t2, .slice am mw.length cm, .slice ak lw.length ck, I m, I long] w1 fun e W' => e = .returned (.bool false) ∧ Below w1.heap.size w1 W') ∧
      ((soE a b c ns ls bx t0 t1 t2 mw lw f long = 6 ∧ soV a b c ns ls bx t0 t1 t2 mw lw f long = 0) ∨ (soE a b c ns ls bx t0 t1 t2 mw lw f long = 0 ∧ f ≤ soV a b c ns ls bx t0 t1 t2 mw lw f long ∧ ∀ w1, Below W.heap.size W w1 → Calls Tryz.prog 21 #[Y5 a b c (.slice an ns.length cn) (.slice al ls.length cl), P9 bx t0 t1 t2, .slice am mw.length cm, .slice ak lw.length ck, I (soV a b c ns ls bx t0 t1 t2 mw lw f long), I long] w1 fun e W' => e = .returned (.bool true) ∧ Below w1.heap.size w1 W')))) := by
    rcases hc with h | ⟨hm, hp, hw, ⟨hf, hl⟩, hc⟩
    · exact .inl h
    · have hAt := HAt.out hm hp hw
      have hmn := hm.2.2.2.1
      have hml := hm.2.2.2.2
      refine .inr ⟨⟨hf.1, hl⟩, fun m h1 h2 h3 w1 hb => ?_, ?_⟩
      · have := hAt m (by omega) hl h2 w1 hb
        have e : (freeP ns ls (midP a b c bx) (cabP a b c bx t0 t1 t2) m (m + long) && wellB a b c bx t0 t1 t2 mw lw) = false := by
          rcases hc with ⟨_, _, hq | hq⟩ | ⟨he, _, hq⟩
          · rw [hq, Bool.and_false]
          · have := soon_none hmn hml hl hq h1
            cases hfr : freeP ns ls (midP a b c bx) (cabP a b c bx t0 t1 t2) m (m + long)
            · rfl
            · rw [servesP_iff.2 ⟨h2, hfr⟩] at this; cases this
          · have hlt : m < soV a b c ns ls bx t0 t1 t2 mw lw f long := by
              rcases h3 with h3 | h3
              · rw [he] at h3; cases h3
              · exact h3
            have := (soon_some hmn hml hl hq).2.2 m h1 hlt
            cases hfr : freeP ns ls (midP a b c bx) (cabP a b c bx t0 t1 t2) m (m + long)
            · rfl
            · rw [servesP_iff.2 ⟨h2, hfr⟩] at this; cases this
        rw [e] at this
        exact this
      · rcases hc with ⟨he, hv, _⟩ | ⟨he, hwell, hq⟩
        · exact .inl ⟨he, hv⟩
        · obtain ⟨s1, s2, _⟩ := soon_some hmn hml hl hq
          obtain ⟨s3, s4⟩ := servesP_iff.1 s2
          refine .inr ⟨he, s1, fun w1 hb => ?_⟩
          have := hAt _ (by omega) hl s3 w1 hb
          rw [s4, hwell] at this
          exact this
  clear hW hN hL bN bL hgr hM hK' hc HAt hTab
  generalize soV a b c ns ls bx t0 t1 t2 mw lw f long = V at *
  generalize soE a b c ns ls bx t0 t1 t2 mw lw f long = E at *
  go_enter Tryz.func5, Tryz.ntmps5
  go_wp2_with fail
  rw [HW.out]
  refine HA.out.mono ?_
  rintro e w1 ⟨rfl, hT1⟩
  obtain ⟨p0, p1, p2, p3, p4, hz⟩ := hK.yard hT1
  go_wp2_with fail
  refine (HG.out _ hT1).mono ?_
  rintro e w2 ⟨rfl, hB2⟩
  clear p0 p1 p2 p3 p4 hz
  have hT2 := then_below hT1 hB2
  clear hT1 hB2
  cases gr
  · have hst := HSt.out rfl
    have HSo1 : Hid (∀ w1, Below W.heap.size W w1 → Calls Tryz.prog 10 #[Y5 a b c (.slice an ns.length cn) (.slice al ls.length cl), P9 bx t0 t1 t2, .slice am mw.length cm, .slice ak lw.length ck, I f, I long] w1 fun e W' => e = .returned (.tuple #[I V, I E]) ∧ Below w1.heap.size w1 W') := HSo.out hst
    clear HSt HSo hst
    by_cases hl1 : 100 < (mw.length : Int)
    · clear HC HSo1
      generalize mw.length = mn at *
      generalize lw.length = ln at *
      generalize ns.length = nn at *
      generalize ls.length = ll at *
      go_wp2
      go_ret
      exact ⟨rfl, then_below hB hT2⟩
    · have hl1b : decide (100 < (mw.length : Int)) = false := decide_eq_false hl1
      by_cases hl2 : 100 < (lw.length : Int)
      · clear HC HSo1 hl1
        generalize mw.length = mn at *
        generalize lw.length = ln at *
        generalize ns.length = nn at *
        generalize ls.length = ll at *
        go_wp2
        go_ret
        exact ⟨rfl, then_below hB hT2⟩
      · have hl2b : decide (100 < (lw.length : Int)) = false := decide_eq_false hl2
        clear hl1 hl2
        generalize mw.length = mn at *
        generalize lw.length = ln at *
        generalize ns.length = nn at *
        generalize ls.length = ll at *
        obtain ⟨p0, p1, p2, p3, p4, hz⟩ := hK.yard hT2
        obtain ⟨⟨x0, x1, x2⟩, ⟨x3, x4, x5⟩, ⟨x6, x7, x8⟩, hz1⟩ := hP.nine hT2
        go_wp2_with fail
        refine (HSo1.out _ hT2).mono ?_
        rintro e w3 ⟨rfl, hB3⟩
        have hT3 := then_below hT2 hB3
        clear p0 p1 p2 p3 p4 hz x0 x1 x2 x3 x4 x5 x6 x7 x8 hz1 hT2 hB3 hl1b hl2b
        rcases HC.out with ⟨h0, h6, hv⟩ | ⟨⟨hf, hl⟩, hNo, hc⟩
        · have d0 : (E != 0) = true := by simpa using h0
          have d6 : (E != 6) = true := by simpa using h6
          subst hv
          clear HC h0 h6
          go_wp2
          go_ret
          exact ⟨rfl, then_below hB hT3⟩
        · have HNo : Hid (∀ m, f ≤ m → m + long ≤ 1099511627776 → (E = 6 ∨ m < V) → ∀ w1, Below W.heap.size W w1 → Calls Tryz.prog 21 #[Y5 a b c (.slice an nn cn) (.slice al ll cl), P9 bx t0 t1 t2, .slice am mn cm, .slice ak ln ck, I m, I long] w1 fun e W' => e = .returned (.bool false) ∧ Below w1.heap.size w1 W') := hNo
          clear hNo HC
          rcases hc with ⟨he, hv⟩ | ⟨he, hfv, hYes⟩
          · subst he hv
            by_cases q1 : o < f
            · have d1 : decide (o < f) = true := decide_eq_true q1
              clear HNo
              go_wp2
              go_ret
              exact ⟨rfl, then_below hB hT3⟩
            · have d1 : decide (o < f) = false := decide_eq_false q1
              by_cases q2 : 1099511627776 ≤ o
              · have d2 : decide (1099511627776 ≤ o) = true := decide_eq_true q2
                clear HNo q1
                go_wp2
                go_ret
                exact ⟨rfl, then_below hB hT3⟩
              · have d2 : decide (1099511627776 ≤ o) = false := decide_eq_false q2
                have hw : wrap64 (1099511627776 - o) = 1099511627776 - o := wrap_in _ (by omega)
                by_cases q3 : 1099511627776 - o < long
                · have d3 : decide (1099511627776 - o < long) = true := decide_eq_true q3
                  clear HNo q1 q2
                  go_wp2
                  go_ret
                  exact ⟨rfl, then_below hB hT3⟩
                · have d3 : decide (1099511627776 - o < long) = false := decide_eq_false q3
                  have HN1 : Hid (Calls Tryz.prog 21 #[Y5 a b c (.slice an nn cn) (.slice al ll cl), P9 bx t0 t1 t2, .slice am mn cm, .slice ak ln ck, I o, I long] w3 fun e W' => e = .returned (.bool false) ∧ Below w3.heap.size w3 W') := HNo.out o (by omega) (by omega) (.inl rfl) w3 hT3
                  clear HNo q1 q2 q3 hf hl
                  obtain ⟨p0, p1, p2, p3, p4, hz⟩ := hK.yard hT3
                  obtain ⟨⟨x0, x1, x2⟩, ⟨x3, x4, x5⟩, ⟨x6, x7, x8⟩, hz1⟩ := hP.nine hT3
                  go_wp2_with fail
                  refine HN1.out.mono ?_
                  rintro e w4 ⟨rfl, hB4⟩
                  go_wp2
                  go_ret
                  exact ⟨rfl, then_below hB (then_below hT3 hB4)⟩
          · subst he
            have HY : Hid (Calls Tryz.prog 21 #[Y5 a b c (.slice an nn cn) (.slice al ll cl), P9 bx t0 t1 t2, .slice am mn cm, .slice ak ln ck, I V, I long] w3 fun e W' => e = .returned (.bool true) ∧ Below w3.heap.size w3 W') := hYes w3 hT3
            have d0 : decide (V < f) = false := decide_eq_false (by omega)
            clear hYes
            obtain ⟨p0, p1, p2, p3, p4, hz⟩ := hK.yard hT3
            obtain ⟨⟨x0, x1, x2⟩, ⟨x3, x4, x5⟩, ⟨x6, x7, x8⟩, hz1⟩ := hP.nine hT3
            go_wp2_with fail
            refine HY.out.mono ?_
            rintro e w4 ⟨rfl, hB4⟩
            have hT4 := then_below hT3 hB4
            clear p0 p1 p2 p3 p4 hz x0 x1 x2 x3 x4 x5 x6 x7 x8 hz1 hB4
            by_cases q1 : o < f
            · have d1 : decide (o < f) = true := decide_eq_true q1
              clear HNo hfv
              go_wp2
              go_ret
              exact ⟨rfl, then_below hB hT4⟩
            · have d1 : decide (o < f) = false := decide_eq_false q1
              by_cases q2 : 1099511627776 ≤ o
              · have d2 : decide (1099511627776 ≤ o) = true := decide_eq_true q2
                clear HNo q1 hfv
                go_wp2
                go_ret
                exact ⟨rfl, then_below hB hT4⟩
              · have d2 : decide (1099511627776 ≤ o) = false := decide_eq_false q2
                have hw : wrap64 (1099511627776 - o) = 1099511627776 - o := wrap_in _ (by omega)
                by_cases q3 : 1099511627776 - o < long
                · have d3 : decide (1099511627776 - o < long) = true := decide_eq_true q3
                  clear HNo q1 q2 hfv
                  go_wp2
                  go_ret
                  exact ⟨rfl, then_below hB hT4⟩
                · have d3 : decide (1099511627776 - o < long) = false := decide_eq_false q3
                  by_cases q4 : V ≤ o
                  · have d4 : decide (V ≤ o) = true := decide_eq_true q4
                    clear HNo q1 q2 q3 hfv
                    go_wp2
                    go_ret
                    exact ⟨rfl, then_below hB hT4⟩
                  · have d4 : decide (V ≤ o) = false := decide_eq_false q4
                    have HN1 : Hid (Calls Tryz.prog 21 #[Y5 a b c (.slice an nn cn) (.slice al ll cl), P9 bx t0 t1 t2, .slice am mn cm, .slice ak ln ck, I o, I long] w4 fun e W' => e = .returned (.bool false) ∧ Below w4.heap.size w4 W') := HNo.out o (by omega) (by omega) (.inr (by omega)) w4 hT4
                    clear HNo q1 q2 q3 q4 hf hl hfv
                    obtain ⟨p0, p1, p2, p3, p4, hz⟩ := hK.yard hT4
                    obtain ⟨⟨x0, x1, x2⟩, ⟨x3, x4, x5⟩, ⟨x6, x7, x8⟩, hz1⟩ := hP.nine hT4
                    go_wp2_with fail
                    refine HN1.out.mono ?_
                    rintro e w5 ⟨rfl, hB5⟩
                    go_wp2
                    go_ret
                    exact ⟨rfl, then_below hB (then_below hT4 hB5)⟩
  · clear HSt HSo HC
    generalize mw.length = mn at *
    generalize lw.length = ln at *
    generalize ns.length = nn at *
    generalize ls.length = ll at *
    go_wp2
    go_ret
    exact ⟨rfl, then_below hB hT2⟩

end Go.Proofs.YtldcagjnngkabaaGreatDoor

/-
  How a place among a statement's arguments is opened: a box's six whole numbers, and three tori.
-/
namespace Go.Proofs.YtldcagjnngkabaaGreatDoor
open Go.ChangeShapes Go.WideShapes Go.ChangeAt Go.RowKit

theorem list9 {α : Type} (l : List α) (h : (⟨l⟩ : Array α).size = 9) : ∃ a b c d e f g i j, l = [a, b, c, d, e, f, g, i, j] := by
  match l, h with
  | [a, b, c, d, e, f, g, i, j], _ => exact ⟨a, b, c, d, e, f, g, i, j, rfl⟩

set_option maxRecDepth 100000 in
theorem open_place {w : World} {H : Type} {enc : TypeId × Value → H} {r : Reach} {b0 base : Nat} {spare : Nat → Bool} {held : Bool} {v : Value} {d : DataW H} {p : List MemPlace}
    (hv : Value.okWide Tryz.prog w r b0 43 v) (h : DataW.Trod enc Tryz.prog w base spare held 43 v d p) : ∃ (b : Bx) (t0 t1 t2 : Bool), v = P9 b t0 t1 t2 := by
  obtain ⟨f0, f1, hu, t0, o0, t1, o1⟩ : ∃ f0 f1, Tryz.prog.underlying 43 = some (.struct #[f0, f1]) ∧ f0.type = 40 ∧ f0.offset = 0 ∧ f1.type = 41 ∧ f1.offset = 6 := ⟨_, _, rfl, rfl, rfl, rfl, rfl⟩
  obtain ⟨s0, s1, hs, q0, r0, q1, r1⟩ : ∃ f0 f1, Tryz.prog.underlying 40 = some (.struct #[f0, f1]) ∧ f0.type = 22 ∧ f0.offset = 0 ∧ f1.type = 22 ∧ f1.offset = 3 := ⟨_, _, rfl, rfl, rfl, rfl, rfl⟩
  obtain ⟨cs, rfl, hsz, _⟩ : ∃ cs, v = .agg cs ∧ cs.size = Tryz.prog.cellsOf 43 ∧ Row.okWide Tryz.prog w r b0 43 cs := by
    simpa [Value.okWide, hu] using hv
  have hct : Tryz.prog.cellsOf 43 = 9 := by kernel_rfl
  rw [hct] at hsz
  obtain ⟨l⟩ := cs
  obtain ⟨c0, c1, c2, c3, c4, c5, c6, c7, c8, rfl⟩ := list9 l hsz
  obtain ⟨fuel, hf⟩ := h
  obtain ⟨x, y, n, _, _, h0, h1⟩ := trod_struct2 hu hf
  have hc6 : Tryz.prog.cellsOf 40 = 6 := by kernel_rfl
  have hc3 : Tryz.prog.cellsOf 22 = 3 := by kernel_rfl
  have hc3' : Tryz.prog.cellsOf 41 = 3 := by kernel_rfl
  have hc1 : Tryz.prog.cellsOf 3 = 1 := by kernel_rfl
  have hc1' : Tryz.prog.cellsOf 4 = 1 := by kernel_rfl
  rw [t0, o0, hc6] at h0
  rw [t1, o1, hc3'] at h1
  have h0 : DataW.trod enc Tryz.prog w base spare held n 40 [c0, c1, c2, c3, c4, c5] = some x := h0
  have h1 : DataW.trod enc Tryz.prog w base spare held n 41 [c6, c7, c8] = some y := h1
  obtain ⟨x', y', n', _, _, h2, h3⟩ := trod_struct2 hs h0
  rw [q0, r0, hc3] at h2
  rw [q1, r1, hc3] at h3
  have h2 : DataW.trod enc Tryz.prog w base spare held n' 22 [c0, c1, c2] = some x' := h2
  have h3 : DataW.trod enc Tryz.prog w base spare held n' 22 [c3, c4, c5] = some y' := h3
  obtain ⟨_, _, _, m, _, g0, g1, g2⟩ := trod_array3 Tryz.underlying22 hc1 h2
  obtain ⟨_, _, _, m', _, g3, g4, g5⟩ := trod_array3 Tryz.underlying22 hc1 h3
  obtain ⟨_, _, _, m'', _, g6, g7, g8⟩ := trod_array3 Tryz.underlying41 hc1' h1
  obtain ⟨x0, e0, _, _⟩ := DataW.trod_int Tryz.underlying3 g0
  obtain ⟨x1, e1, _, _⟩ := DataW.trod_int Tryz.underlying3 g1
  obtain ⟨x2, e2, _, _⟩ := DataW.trod_int Tryz.underlying3 g2
  obtain ⟨x3, e3, _, _⟩ := DataW.trod_int Tryz.underlying3 g3
  obtain ⟨x4, e4, _, _⟩ := DataW.trod_int Tryz.underlying3 g4
  obtain ⟨x5, e5, _, _⟩ := DataW.trod_int Tryz.underlying3 g5
  obtain ⟨y6, e6, _⟩ := DataW.trod_bool Tryz.underlying4 g6
  obtain ⟨y7, e7, _⟩ := DataW.trod_bool Tryz.underlying4 g7
  obtain ⟨y8, e8, _⟩ := DataW.trod_bool Tryz.underlying4 g8
  simp at e0 e1 e2 e3 e4 e5 e6 e7 e8
  subst e0 e1 e2 e3 e4 e5 e6 e7 e8
  exact ⟨⟨x0, x1, x2, x3, x4, x5⟩, y6, y7, y8, rfl⟩

end Go.Proofs.YtldcagjnngkabaaGreatDoor

/-
  What the statements that list math/bits' table ask ahead of a walk: the table lies in its variable, as the condition says.
-/
namespace Go.Proofs.YtldcagjnngkabaaGreatDoor
open Go Go.ChangeShapes Go.WideShapes Go.ChangeAt Go.RowKit

def tabLaid : List (String × DataW Unit) := [("math/bits.deBruijn64tab", Rows.laid_math_bits_deBruijn64tab)]

theorem tab_named : Tryz.prog.globalNamed "math/bits.deBruijn64tab" = some 0 := by kernel_rfl
theorem tab_type : (Tryz.prog.globals[0]?).map (·.type) = some 237 := by kernel_rfl

/-- The heap that the program's own start leaves meets the condition. -/
theorem door_met (os : Os) (args : Array Value) : laidMetH Tryz.prog tabLaid ((World.doorLaid Tryz.prog 14 os).forCall (fun _ _ => 0) ⟨#[], args, []⟩).memory :=
  laidMetH_of_parts3 (fuel := 8) (laidMet_of_run' 8 (by kernel_rfl) (by kernel_rfl)) (by kernel_rfl) (by kernel_rfl)

theorem tab_datum : (Rows.laid_math_bits_deBruijn64tab : DataW Unit) = Lib.tabData .u8 (ofN Lib.deBruijn64tab) := rfl

theorem tab_of {W : World} (h : laidMetH Tryz.prog tabLaid W) : TabOk W := by
  rw [MakeChecks.laidMetH_plain _ _ _ (by kernel_rfl)] at h
  unfold tabLaid at h
  rw [tab_datum] at h
  have hT := Lib.tabIs_of_head tab_named tab_type Tryz.underlying237 Tryz.underlying5 (by kernel_rfl) (by kernel_rfl) h
  intro j hj
  have := hT.cell tab_named j (by rw [ofN_len]; exact hj)
  rw [this, ofN_get]

/-- No parameter's type asks for a stand-in. -/
theorem noS_stand_in (ts : Array TypeId) (h : (ts.toList.all fun t => !Tryz.prog.wantsStandIn t) = true) (j : Nat) (t : TypeId) (ht : ts[j]? = some t) : Tryz.prog.wantsStandIn t = false := by
  have hm : t ∈ ts.toList := by
    obtain ⟨hlt, he⟩ := Array.getElem?_eq_some_iff.1 ht
    rw [← he]
    exact Array.getElem_mem_toList hlt
  have := List.all_eq_true.1 h t hm
  simpa using this

end Go.Proofs.YtldcagjnngkabaaGreatDoor

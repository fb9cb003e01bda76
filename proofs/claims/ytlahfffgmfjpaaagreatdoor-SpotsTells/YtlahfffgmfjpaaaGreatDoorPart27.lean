/-
  turn.All: the rotations, rising.
-/
import Derived.Test.YtlahfffgmfjpaaaGreatDoorPart26
import Derived.Test.YtlahfffgmfjpaaaGreatDoorPart16
import Derived.Test.YtlahfffgmfjpaaaGreatDoorSpotsHolds
namespace Go.Proofs.YtlahfffgmfjpaaaGreatDoor
open Go Go.RowKit Go.Shelf

attribute [local go_sem] Oper.semAt_some ext_const

theorem accT_mem {w u : Wt} : ∀ {k : Nat}, u ∈ accT w k ↔ ∃ j, j < k ∧ byOrd w j = u
  | 0 => by simp [accT]
  | k + 1 => by
    have ih := accT_mem (w := w) (u := u) (k := k)
    by_cases h : byOrd w k ∈ accT w k
    · rw [accT_old h, ih]
      constructor
      · rintro ⟨j, hj, e⟩; exact ⟨j, by omega, e⟩
      · rintro ⟨j, hj, e⟩
        by_cases hjk : j = k
        · subst hjk
          exact ih.1 (e ▸ h)
        · exact ⟨j, by omega, e⟩
    · rw [accT_new h, List.mem_append, ih, List.mem_singleton]
      constructor
      · rintro (⟨j, hj, e⟩ | e)
        · exact ⟨j, by omega, e⟩
        · exact ⟨k, by omega, e.symm⟩
      · rintro ⟨j, hj, e⟩
        by_cases hjk : j = k
        · subst hjk; exact .inr e.symm
        · exact .inl ⟨j, by omega, e⟩
theorem accT_nodup (w : Wt) : ∀ k, (accT w k).Nodup
  | 0 => by simp [accT]
  | k + 1 => by
    have ih := accT_nodup w k
    by_cases h : byOrd w k ∈ accT w k
    · rw [accT_old h]; exact ih
    · rw [accT_new h]
      exact List.nodup_append.2 ⟨ih, by simp, fun a ha b hb e => by rw [List.mem_singleton.1 hb] at e; exact h (e ▸ ha)⟩
theorem accT_six (w u : Wt) : u ∈ accT w 6 ↔ u ∈ six w := by
  rw [accT_mem]
  obtain ⟨x, y, z, p, q, r, t⟩ := w
  have e0 : byOrd (x, y, z, p, q, r, t) 0 = (x, y, z, p, q, r, t) := rfl
  have e1 : byOrd (x, y, z, p, q, r, t) 1 = (x, z, y, p, r, q, t) := rfl
  have e2 : byOrd (x, y, z, p, q, r, t) 2 = (y, x, z, q, p, r, t) := rfl
  have e3 : byOrd (x, y, z, p, q, r, t) 3 = (y, z, x, q, r, p, t) := rfl
  have e4 : byOrd (x, y, z, p, q, r, t) 4 = (z, x, y, r, p, q, t) := rfl
  have e5 : byOrd (x, y, z, p, q, r, t) 5 = (z, y, x, r, q, p, t) := rfl
  simp only [six, others, s01, s02, s12, List.mem_cons, List.not_mem_nil, or_false]
  constructor
  · rintro ⟨j, hj, e⟩
    match j, hj with
    | 0, _ => rw [e0] at e; exact .inl e.symm
    | 1, _ => rw [e1] at e; exact .inr (.inr (.inr (.inl e.symm)))
    | 2, _ => rw [e2] at e; exact .inr (.inl e.symm)
    | 3, _ => rw [e3] at e; exact .inr (.inr (.inr (.inr (.inl e.symm))))
    | 4, _ => rw [e4] at e; exact .inr (.inr (.inr (.inr (.inr e.symm))))
    | 5, _ => rw [e5] at e; exact .inr (.inr (.inl e.symm))
  · rintro (e | e | e | e | e | e)
    · exact ⟨0, by omega, by rw [e0, e]⟩
    · exact ⟨2, by omega, by rw [e2, e]⟩
    · exact ⟨5, by omega, by rw [e5, e]⟩
    · exact ⟨1, by omega, by rw [e1, e]⟩
    · exact ⟨3, by omega, by rw [e3, e]⟩
    · exact ⟨4, by omega, by rw [e4, e]⟩

theorem rots_len (w : Wt) : (rotsT w).length ≤ 6 := by
  unfold rotsT
  split
  · exact accT_len w 6
  · simp
theorem rots_some (w : Wt) : rotsT w ≠ [] := by
  unfold rotsT
  split
  · intro h
    have : byOrd w 0 ∈ accT w 6 := accT_mem.2 ⟨0, by omega, rfl⟩
    rw [h] at this; cases this
  · simp
theorem rots_mem (w u : Wt) : u ∈ rotsT w ↔ u ∈ turnsT w := by
  unfold rotsT
  by_cases h : turnT w = true
  · rw [if_pos h, accT_six, turns_mem h]
  · rw [if_neg h]
    unfold turnsT
    rw [if_neg h]
theorem rots_nodup (w : Wt) : (rotsT w).Nodup := by
  unfold rotsT
  split
  · exact accT_nodup w 6
  · simp
theorem turns_may {w u : Wt} (hw : mayT w) (hu : u ∈ turnsT w) : mayT u ∧ turnT u = turnT w := by
  by_cases h : turnT w = true
  · exact six_may hw ((turns_mem h).1 hu)
  · unfold turnsT at hu
    rw [if_neg h, List.mem_singleton] at hu
    rw [hu]; exact ⟨hw, rfl⟩
/-- Sorted, they are the rotations, rising. -/
theorem sorted_rots {w : Wt} {l : List Wt} (hw : mayT w) (hp : l.Perm (rotsT w)) (hs : ∀ i j (hi : i < l.length) (hj : j < l.length), i < j → lessT l[j] l[i] = false) : l = turnsT w := by
  have hm : ∀ u, u ∈ l ↔ u ∈ turnsT w := fun u => by rw [hp.mem_iff, rots_mem]
  refine rises_ext ?_ (turns_rises hw) hm
  refine List.pairwise_iff_getElem.2 fun i j hi hj hij => ?_
  have hn : l.Nodup := hp.nodup_iff.2 (rots_nodup w)
  have h1 := turns_may hw ((hm _).1 (List.getElem_mem hi))
  have h2 := turns_may hw ((hm _).1 (List.getElem_mem hj))
  have hl := hs i j hi hj hij
  rw [less_key h2.1 h1.1, decide_eq_false_iff_not] at hl
  have hne : keyT l[i] ≠ keyT l[j] := fun e => by
    have := key_inj h1.1 h2.1 (h1.2.trans h2.2.symm) e
    have := (List.getElem_inj hn).1 this
    omega
  omega

theorem rots_calls {x y z : Int} {p q r t : Bool} (w : World) (hO : OrdOk w) (hm : mayT (x, y, z, p, q, r, t)) :
    Calls Tryz.prog 36 #[V7 x y z p q r t] w fun e W' => ∃ v, e = .returned v ∧ Wl W' w.heap.size v (rotsT (x, y, z, p, q, r, t)) ∧ Below w.heap.size w W' := by
  cases t
  · exact rot_one w
  · exact rot_six w hO hm

set_option maxRecDepth 100000 in
set_option maxHeartbeats 1000000 in
theorem all_yes {x y z : Int} {p q r t : Bool} (w : World) (hO : OrdOk w) (hm : mayD x y z) :
    Calls Tryz.prog 14 #[V7 x y z p q r t] w fun e W' => ∃ v, e = .returned (.tuple #[v, I 0]) ∧ Wl W' w.heap.size v (turnsT (x, y, z, p, q, r, t)) ∧ Below w.heap.size w W' := by
  have hmT : mayT (x, y, z, p, q, r, t) := mayT_D.2 hm
  have hc := fun w => tcheck_yes (p := p) (q := q) (r := r) (t := t) w hm
  have hr := fun (w : World) (hO : OrdOk w) => rots_calls w hO hmT
  have HS : Hid (∀ l : List Wt, l.Perm (rotsT (x, y, z, p, q, r, t)) → (∀ i j (hi : i < l.length) (hj : j < l.length), i < j → lessT l[j] l[i] = false) → l = turnsT (x, y, z, p, q, r, t)) := fun l => sorted_rots hmT
  have HN : Hid ((rotsT (x, y, z, p, q, r, t)).length ≤ 12 ∧ rotsT (x, y, z, p, q, r, t) ≠ []) := ⟨by have := rots_len (x, y, z, p, q, r, t); omega, rots_some _⟩
  generalize turnsT (x, y, z, p, q, r, t) = ts at HS ⊢
  generalize rotsT (x, y, z, p, q, r, t) = rs at HS HN hr
  clear hm hmT
  have HO : Hid (OrdOk w) := hO
  clear hO
  have hB : Below w.heap.size w (w.alloc (.cells (cells7 x y z p q r t) 26)) := (Below.refl _ w).alloc (Nat.le_refl _) _
  have b0 : Blk (w.alloc (.cells (cells7 x y z p q r t) 26)) w.heap.size 26 (cells7 x y z p q r t) := Blk.new w _ _
  go_enter Tryz.func14, Tryz.ntmps14
  go_wp2_with fail
  refine (hc _).mono ?_
  rintro e w1 ⟨rfl, hT⟩
  obtain ⟨s0, s1, s2, s3, s4, s5, s6⟩ := (b0.later hT).seven
  have hT1 := then_below hB hT
  clear hc hT b0
  go_wp2_with fail
  refine (hr _ (HO.out.later hT1)).mono ?_
  rintro e w2 ⟨v, rfl, hW, hB2⟩
  have hT2 := then_below hT1 hB2
  have hW' := hW.weak hT1.size
  have hv : ∀ g, v.ownBlock = some g → w.heap.size ≤ g := fun g hg => (World.ownsRow.lt hW' g hg).1
  have HL : Hid (Wl w2 w.heap.size v rs) := hW'
  clear hr hW hW' hB2 s0 s1 s2 s3 s4 s5 s6 hB
  go_wp2_with fail
  refine (sortT_calls _ HL.out HN.out.1 HN.out.2).mono ?_
  rintro e w3 ⟨rfl, ws', hW3, hp, hs, hG⟩
  have hT3 := hT2.grown hG hT2.size hv
  obtain rfl := HS.out ws' hp hs
  clear hs hp
  go_wp2_with fail
  go_ret2
  exact ⟨_, rfl, hW3, hT3⟩

end Go.Proofs.YtlahfffgmfjpaaaGreatDoor

/-
  The places as the program hands them out, rotation by rotation; sorted by the midplanes at their bases they are the document's. No program is walked here.
-/
namespace Go.Proofs.YtlahfffgmfjpaaaGreatDoor
open Go Go.RowKit Go.Shelf Go.Sort

/-- What is asked for, without tori along axes of 1. -/
def plainT : Wt → Wt | (x, y, z, p, q, r, t) => (x, y, z, p && decide (1 < x), q && decide (1 < y), r && decide (1 < z), t)
def offT : Wt → Wt | (x, y, z, p, q, r, _) => (x, y, z, p, q, r, false)
theorem plain_may {w : Wt} : mayT (plainT w) ↔ mayT w := by obtain ⟨x, y, z, p, q, r, t⟩ := w; exact Iff.rfl
theorem plain_turn (w : Wt) : turnT (plainT w) = turnT w := by obtain ⟨x, y, z, p, q, r, t⟩ := w; rfl
theorem kind_plain (w : Wt) : kindT w = offT (plainT w) := by obtain ⟨x, y, z, p, q, r, t⟩ := w; rfl
theorem off_key (w : Wt) : keyT (offT w) = keyT w := by obtain ⟨x, y, z, p, q, r, t⟩ := w; rfl
theorem plain_six (w : Wt) : six (plainT w) = (six w).map plainT := by obtain ⟨x, y, z, p, q, r, t⟩ := w; rfl
theorem plain_turns {w u : Wt} : u ∈ turnsT (plainT w) ↔ ∃ v ∈ turnsT w, plainT v = u := by
  cases h : turnT w
  · have h' : turnT (plainT w) = false := (plain_turn w).trans h
    unfold turnsT
    rw [h, h']
    simp [eq_comm]
  · have h' : turnT (plainT w) = true := (plain_turn w).trans h
    rw [turns_mem h', plain_six, List.mem_map]
    simp only [turns_mem h]
theorem kd_off (d0 d1 m : Int) (u : Wt) : kdP (plT d0 d1 m u) = offT u := by obtain ⟨x, y, z, p, q, r, t⟩ := u; rfl
theorem pl_off (d0 d1 m : Int) (u : Wt) : plT d0 d1 m (offT u) = plT d0 d1 m u := by obtain ⟨x, y, z, p, q, r, t⟩ := u; rfl

/-- The places of a rotation, one for each midplane at which one may begin; those of each rotation. -/
def lyL (d0 d1 d2 : Int) (u : Wt) : List Pl := ((List.range (d0 * d1 * d2).toNat).map fun (m : Nat) => plT d0 d1 m u).filter (mayL d0 d1 d2)
def placesL (d0 d1 d2 : Int) (w : Wt) : List Pl := (turnsT (plainT w)).flatMap (lyL d0 d1 d2)
theorem ly_mem {d0 d1 d2 : Int} (h : mayD d0 d1 d2) {u : Wt} {p : Pl} : p ∈ lyL d0 d1 d2 u ↔ mayL d0 d1 d2 p = true ∧ offT u = kdP p := by
  unfold lyL
  rw [List.mem_filter, List.mem_map]
  constructor
  · rintro ⟨⟨m, hm, rfl⟩, hp⟩
    exact ⟨hp, (kd_off _ _ _ _).symm⟩
  · rintro ⟨hp, e⟩
    obtain ⟨hm, e2⟩ := pl_at h hp
    refine ⟨⟨(atP d0 d1 p).toNat, List.mem_range.2 (by omega), ?_⟩, hp⟩
    rw [Int.toNat_of_nonneg hm.1, ← pl_off, e, e2]
theorem places_mem {d0 d1 d2 : Int} (h : mayD d0 d1 d2) {w : Wt} {p : Pl} : p ∈ placesL d0 d1 d2 w ↔ mayL d0 d1 d2 p = true ∧ isT (turnsT w) p = true := by
  unfold placesL
  rw [List.mem_flatMap, isT_iff]
  constructor
  · rintro ⟨u, hu, hp⟩
    obtain ⟨v, hv, rfl⟩ := plain_turns.1 hu
    obtain ⟨h1, h2⟩ := (ly_mem h).1 hp
    exact ⟨h1, v, hv, (kind_plain v).trans h2⟩
  · rintro ⟨h1, v, hv, e⟩
    exact ⟨plainT v, plain_turns.2 ⟨v, hv, rfl⟩, (ly_mem h).2 ⟨h1, (kind_plain v).symm.trans e⟩⟩
/-- Of two with one base the one that is handed out first comes first. -/
def ahead (d0 d1 : Int) (x y : Pl) : Prop := atP d0 d1 x = atP d0 d1 y → keyT (kdP x) < keyT (kdP y)
theorem ly_ahead {d0 d1 d2 : Int} (u : Wt) : (lyL d0 d1 d2 u).Pairwise (ahead d0 d1) := by
  unfold lyL
  refine List.Pairwise.sublist List.filter_sublist ?_
  rw [List.pairwise_map]
  refine List.pairwise_lt_range.imp fun {m n} hmn e => ?_
  rw [at_pl, at_pl] at e
  omega
theorem places_ahead {d0 d1 d2 : Int} (h : mayD d0 d1 d2) {w : Wt} (hw : mayT w) : (placesL d0 d1 d2 w).Pairwise (ahead d0 d1) := by
  unfold placesL
  rw [List.pairwise_flatMap]
  refine ⟨fun u _ => ly_ahead u, ?_⟩
  refine (turns_rises (plain_may.2 hw)).imp fun {_ _} huv x hx y hy _ => ?_
  rw [← ((ly_mem h).1 hx).2, ← ((ly_mem h).1 hy).2, off_key, off_key]
  exact huv
theorem ahead_nodup {d0 d1 : Int} {l : List Pl} (h : l.Pairwise (ahead d0 d1)) : l.Nodup := h.imp fun {a b} hab e => by
  have := hab (by rw [e])
  rw [e] at this
  omega
theorem turns_all {w : Wt} (hw : mayT w) : ∀ u ∈ turnsT w, mayT u := fun _ hu => (turns_may hw hu).1
/-- How many there are. -/
theorem places_len {d0 d1 d2 : Int} (h : mayD d0 d1 d2) {w : Wt} (hw : mayT w) : ((placesL d0 d1 d2 w).length : Int) = manyT d0 d1 d2 (turnsT w) := by
  rw [← every_len h (turns_all hw)]
  have hp : (placesL d0 d1 d2 w).Perm (everyT d0 d1 d2 (turnsT w)) := by
    rw [List.perm_ext_iff_of_nodup (ahead_nodup (places_ahead h hw)) (upF_nodup (every_up (turns_all hw)))]
    intro p
    rw [places_mem h, every_mem h (turns_all hw), isT_iff]
  rw [hp.length_eq]
theorem atV_may {d0 d1 d2 : Int} {p : Pl} (hp : mayL d0 d1 d2 p = true) : atV d0 d1 d2 p = atP d0 d1 p := by
  obtain ⟨⟨b0, b1, b2⟩, _⟩ := mayL_iff.1 hp
  rw [atV, if_pos (inDB_iff.2 ⟨b0.2, b1.2, b2.2⟩)]
theorem kd_may {d0 d1 d2 : Int} (h : mayD d0 d1 d2) {p : Pl} (hp : mayL d0 d1 d2 p = true) : mayT (kdP p) := by
  obtain ⟨⟨b0, b1, b2⟩, _⟩ := mayL_iff.1 hp
  obtain ⟨⟨_, u0⟩, ⟨_, u1⟩, _, u2⟩ := h
  have q0 := b0.1
  have q1 := b1.1
  have q2 := b2.1
  show 1 ≤ p.1.a ∧ p.1.a ≤ 16 ∧ 1 ≤ p.1.b ∧ p.1.b ≤ 16 ∧ 1 ≤ p.1.c ∧ p.1.c ≤ 16
  omega
/-- Those of one key in their order: a list by that key is in both orders. -/
theorem both_orders {key : Pl → Int} {R : Pl → Pl → Prop} : ∀ {l : List Pl}, l.Pairwise (fun x y => key x ≤ key y) → (∀ k, (ofKey key k l).Pairwise R) → l.Pairwise fun x y => key x < key y ∨ (key x = key y ∧ R x y)
  | [], _, _ => List.Pairwise.nil
  | x :: l, h1, h2 => by
    obtain ⟨a1, a2⟩ := List.pairwise_cons.1 h1
    refine List.pairwise_cons.2 ⟨fun y hy => ?_, both_orders a2 fun k => ?_⟩
    · by_cases e : key x = key y
      · right
        refine ⟨e, ?_⟩
        have := h2 (key x)
        rw [ofKey, List.filter_cons, if_pos (by simp)] at this
        exact (List.pairwise_cons.1 this).1 y (List.mem_filter.2 ⟨hy, by simp [e]⟩)
      · left
        have := a1 y hy
        omega
    · have := h2 k
      rw [ofKey, List.filter_cons] at this
      split at this
      · exact (List.pairwise_cons.1 this).2
      · exact this
/-- What the program's sort makes of the places that are free is the document's list. -/
theorem rise_clear {d0 d1 d2 : Int} (h : mayD d0 d1 d2) {w : Wt} (hw : mayT w) {mw lw : List Nat} {ys : List Pl} (h1 : ys.Pairwise fun x y => atV d0 d1 d2 x ≤ atV d0 d1 d2 y)
    (h2 : ∀ k, ofKey (atV d0 d1 d2) k ys = ofKey (atV d0 d1 d2) k ((placesL d0 d1 d2 w).filter (wellL d0 d1 d2 mw lw))) : ys = clearT d0 d1 d2 (turnsT w) mw lw := by
  have hmem : ∀ p, p ∈ ys ↔ p ∈ (placesL d0 d1 d2 w).filter (wellL d0 d1 d2 mw lw) := fun p => by
    have e := h2 (atV d0 d1 d2 p)
    have k1 : ∀ l : List Pl, p ∈ ofKey (atV d0 d1 d2) (atV d0 d1 d2 p) l ↔ p ∈ l := fun l => by simp [ofKey]
    rw [← k1 ys, e, k1]
  have hmay : ∀ p ∈ ys, mayL d0 d1 d2 p = true := fun p hp => ((places_mem h).1 (List.mem_filter.1 ((hmem p).1 hp)).1).1
  have hR : ∀ k, (ofKey (atV d0 d1 d2) k ys).Pairwise (ahead d0 d1) := fun k => by
    rw [h2 k]
    exact ((places_ahead h hw).sublist List.filter_sublist).sublist List.filter_sublist
  have hB := both_orders h1 hR
  have hU : upF (keyP d0 d1) ys := by
    refine hB.imp_of_mem fun {x y} hx hy hxy => ?_
    have mx := hmay x hx
    have my := hmay y hy
    rw [atV_may mx, atV_may my] at hxy
    have b1 := key_bd (kd_may h mx)
    have b2 := key_bd (kd_may h my)
    unfold keyP
    rcases hxy with c | ⟨c, r⟩
    · omega
    · have := r c
      omega
  refine upF_ext hU (clear_up (turns_all hw) mw lw) fun p => ?_
  rw [hmem, List.mem_filter, places_mem h, clear_mem h (turns_all hw)]

end Go.Proofs.YtlahfffgmfjpaaaGreatDoor

/-
  turn.Fits, turn.Of: whether any rotation fits, whether one has a size and tori.
-/
namespace Go.Proofs.YtlahfffgmfjpaaaGreatDoor
open Go Go.RowKit Go.Shelf

attribute [local go_sem] Oper.semAt_some ext_const eq_ints_at eq_bools_at

theorem any_rots (f : Wt → Bool) (w : Wt) : (rotsT w).any f = (turnsT w).any f := by
  rw [Bool.eq_iff_iff, List.any_eq_true, List.any_eq_true]
  constructor
  · rintro ⟨u, hu, h⟩; exact ⟨u, (rots_mem w u).1 hu, h⟩
  · rintro ⟨u, hu, h⟩; exact ⟨u, (rots_mem w u).2 hu, h⟩
theorem anyT_hit {f : Wt → Bool} {l : List Wt} {k : Nat} (hk : k < l.length) (h : f (l.getD k default) = true) : l.any f = true := by
  refine List.any_eq_true.2 ⟨l[k], List.getElem_mem hk, ?_⟩
  simpa [hk] using h
theorem anyT_miss {f : Wt → Bool} {l : List Wt} (h : ∀ j, j < l.length → f (l.getD j default) = false) : l.any f = false := by
  rw [Bool.eq_false_iff]
  intro e
  obtain ⟨u, hu, hf⟩ := List.any_eq_true.1 e
  obtain ⟨j, hj, rfl⟩ := List.getElem_of_mem hu
  have := h j hj
  rw [List.getD_eq_getElem?_getD, List.getElem?_eq_getElem hj, Option.getD_some] at this
  rw [this] at hf
  cases hf

/-- The list holds, at place k, one that is asked for. -/
theorem Wl.at {W : World} {base : Nat} {ao : Option Addr} {cap n : Nat} {ws : List Wt} (h : Wl W base (.slice ao n cap) ws) {k : Nat} (hk : k < ws.length) : ∃ g x y z p q r t, ao = some ⟨g, 0, none⟩ ∧ ws.getD k default = (x, y, z, p, q, r, t) ∧ At7 W g (k * 7) (x, y, z, p, q, r, t) := by
  obtain ⟨ao', cap', e, hv⟩ := h.view
  obtain ⟨g, hg, ha⟩ := hv k hk
  rw [Value.slice.injEq] at e
  rcases hu : ws.getD k default with ⟨x, y, z, p, q, r, t⟩
  rw [hu] at ha
  exact ⟨g, x, y, z, p, q, r, t, e.1.trans hg, rfl, ha⟩

/-- One has this size and these tori. -/
def hasTs (a b c : Int) (f g h : Bool) : Wt → Bool | (x, y, z, p, q, r, _) => eqN x y z a b c && eqB p q r f g h
def ofT (w : Wt) (a b c : Int) (f g h : Bool) : Bool := (turnsT w).any (hasTs a b c f g h)

theorem three_turn (w : World) (u0 u1 u2 : Array Value) (t0 t1 t2 : TypeId) :
    ∃ W : World, ((w.alloc (.cells u0 t0)).alloc (.cells u1 t1)).alloc (.cells u2 t2) = W ∧ Below w.heap.size w W ∧ Blk W w.heap.size t0 u0 ∧ Blk W (w.heap.size + 1) t1 u1 ∧ Blk W (w.heap.size + 1 + 1) t2 u2 := by
  refine ⟨_, rfl, (((Below.refl _ w).alloc (Nat.le_refl _) _).alloc (by simp) _).alloc (by simp; omega) _, ?_, ?_, ?_⟩
  · exact ((Blk.new w t0 u0).alloc _).alloc _
  · have := (Blk.new (w.alloc (.cells u0 t0)) t1 u1).alloc (.cells u2 t2); simpa using this
  · have := Blk.new ((w.alloc (.cells u0 t0)).alloc (.cells u1 t1)) t2 u2; simpa using this

theorem Blk.threeB {W W' : World} {B : Nat} {t : TypeId} {a b c : Value} (h : Blk W B t #[a, b, c]) (hb : Below W.heap.size W W') :
    W'.cell? ⟨B, 0, none⟩ = some a ∧ W'.cell? ⟨B, 1, none⟩ = some b ∧ W'.cell? ⟨B, 2, none⟩ = some c ∧ B < W'.heap.size :=
  ⟨(h.later hb).cell 0, (h.later hb).cell 1, (h.later hb).cell 2, (h.later hb).lt⟩

set_option maxRecDepth 100000 in
set_option maxHeartbeats 4000000 in
theorem tof_yes {x y z a b c : Int} {p q r t f g h : Bool} (w : World) (hO : OrdOk w) (hm : mayD x y z) :
    Calls Tryz.prog 26 #[V7 x y z p q r t, A3 a b c, B3 f g h] w fun e W' => e = .returned (.tuple #[.bool (ofT (x, y, z, p, q, r, t) a b c f g h), I 0]) ∧ Below w.heap.size w W' := by
  have hmT : mayT (x, y, z, p, q, r, t) := mayT_D.2 hm
  have hc := fun w => tcheck_yes (p := p) (q := q) (r := r) (t := t) w hm
  have hr := fun (w : World) (hO : OrdOk w) => rots_calls w hO hmT
  have HA : Hid (ofT (x, y, z, p, q, r, t) a b c f g h = (rotsT (x, y, z, p, q, r, t)).any (hasTs a b c f g h)) := (any_rots _ _).symm
  have HN : Hid ((rotsT (x, y, z, p, q, r, t)).length ≤ 6) := rots_len _
  generalize ofT (x, y, z, p, q, r, t) a b c f g h = ans at HA ⊢
  generalize rotsT (x, y, z, p, q, r, t) = rs at HA HN hr
  clear hm hmT
  have HO : Hid (OrdOk w) := hO
  clear hO
  obtain ⟨W, hW, hBW, b0, b1, b2⟩ := three_turn w (cells7 x y z p q r t) #[I a, I b, I c] #[.bool f, .bool g, .bool h] 26 22 24
  have HW : Hid (((w.alloc (.cells (cells7 x y z p q r t) 26)).alloc (.cells #[I a, I b, I c] 22)).alloc (.cells #[.bool f, .bool g, .bool h] 24) = W) := hW
  clear hW
  go_enter Tryz.func26, Tryz.ntmps26
  go_wp2_with fail
  rw [HW.out]
  refine (hc _).mono ?_
  rintro e w2 ⟨rfl, hT2⟩
  clear hc
  obtain ⟨s0, s1, s2, s3, s4, s5, s6⟩ := (b0.later hT2).seven
  have HT2 : Hid (Below w.heap.size w w2) := then_below hBW hT2
  go_wp2_with fail
  refine (hr _ (HO.out.later HT2.out)).mono ?_
  rintro e w3 ⟨v, rfl, hL, hB3⟩
  have hT3 := then_below hT2 hB3
  clear hr s0 s1 s2 s3 s4 s5 s6 hT2
  obtain ⟨ao, cap, rfl, _⟩ := hL.view
  have hn := HN.out
  have b1' := b1.later hT3
  have b2' := b2.later hT3
  have HB : Hid (Below w.heap.size w w3) := then_below hBW hT3
  have HL : Hid (Wl w3 w2.heap.size (.slice ao rs.length cap) rs) := hL
  clear b0 b1 b2 hT3 hBW hB3 hL
  go_wp2
  go_loopw [19] (fun i wr => ∃ k : Nat, k ≤ rs.length ∧ i = .int .i64 k ∧ Hid (∀ j, j < k → hasTs a b c f g h (rs.getD j default) = false) ∧ Below w3.heap.size w3 wr) (fun i _ => rs.length - (RowKit.intOf i).toNat)
  case atStart => exact ⟨0, by omega, rfl, fun j hj => by omega, Below.refl _ _⟩
  case round =>
    obtain ⟨k, hk, rfl, H0, hT⟩ := hrel
    by_cases hlt : (k : Int) < (rs.length : Int)
    · have hk' : k < rs.length := by omega
      obtain ⟨gg, x1, y1, z1, p1, q1, r1, t1, rfl, hu, hat⟩ := Wl.at (HL.out.later hT) hk'
      obtain ⟨c0, c1, c2, c3, c4, c5, c6⟩ := hat.cells
      have hgl := hat.lt
      obtain ⟨d0, d1, d2, dl⟩ := b1'.threeB hT
      obtain ⟨e0, e1, e2, el⟩ := b2'.threeB hT
      have HU : Hid (rs.getD k default = (x1, y1, z1, p1, q1, r1, t1)) := hu
      have HH : Hid (hasTs a b c f g h (x1, y1, z1, p1, q1, r1, t1) = (eqN x1 y1 z1 a b c && eqB p1 q1 r1 f g h)) := rfl
      clear hu hat
      cases hq : eqN x1 y1 z1 a b c
      · have HQ : Hid (hasTs a b c f g h (rs.getD k default) = false) := by show _ = _; rw [HU.out, HH.out, hq]; rfl
        go_wp2
        go_roundw
        case rel => exact ⟨k + 1, by omega, by go_num, fun j hj => by
            by_cases e : j = k
            · subst e; exact HQ.out
            · exact H0.out j (by omega), then_alloc hT _⟩
        case measure => simp [RowKit.intOf]; omega
      · cases hq2 : eqB p1 q1 r1 f g h
        · have HQ : Hid (hasTs a b c f g h (rs.getD k default) = false) := by show _ = _; rw [HU.out, HH.out, hq, hq2]; rfl
          go_wp2
          go_roundw
          case rel => exact ⟨k + 1, by omega, by go_num, fun j hj => by
              by_cases e : j = k
              · subst e; exact HQ.out
              · exact H0.out j (by omega), then_alloc hT _⟩
          case measure => simp [RowKit.intOf]; omega
        · obtain rfl : ans = true := by
            rw [HA.out]
            exact anyT_hit hk' (by rw [HU.out, HH.out, hq, hq2]; rfl)
          go_wp2
          go_ret2
          exact ⟨rfl, then_below HB.out (then_alloc hT _)⟩
    · obtain rfl : ans = false := by
        rw [HA.out]
        exact anyT_miss fun j hj => H0.out j (by omega)
      go_wp2
      go_ret2
      exact ⟨rfl, then_below HB.out hT⟩

end Go.Proofs.YtlahfffgmfjpaaaGreatDoor

/-
  spots.check, checkSets, plain.
-/
namespace Go.Proofs.YtlahfffgmfjpaaaGreatDoor
open Go Go.RowKit Go.Shelf Go.Maps

attribute [local go_sem] Oper.semAt_some ext_const ixI0 ixI1 ixI2

set_option maxRecDepth 100000 in
theorem acheck_yes {d0 d1 d2 x y z : Int} {p q r t : Bool} (w : World) (hd : mayD d0 d1 d2) (hx : mayD x y z) : Calls Tryz.prog 15 #[A3 d0 d1 d2, V7 x y z p q r t] w fun e W' => e = .returned (I 0) ∧ Below w.heap.size w W' := by
  have HC : Hid (∀ w, Calls Tryz.prog 39 #[A3 d0 d1 d2] w fun e W' => e = .returned (I 0) ∧ Below w.heap.size w W') := fun w => check_yes w hd
  have HT : Hid (∀ w, Calls Tryz.prog 35 #[V7 x y z p q r t] w fun e W' => e = .returned (I 0) ∧ Below w.heap.size w W') := fun w => tcheck_yes w hx
  clear hd hx
  obtain ⟨W, hW, hB0, k0, k1⟩ := two_start w #[I d0, I d1, I d2] #[I x, I y, I z, .bool p, .bool q, .bool r, .bool t] 23 26
  have HW : Hid ((w.alloc (.cells #[I d0, I d1, I d2] 23)).alloc (.cells #[I x, I y, I z, .bool p, .bool q, .bool r, .bool t] 26) = W) := hW
  clear hW
  go_enter Tryz.func15, Tryz.ntmps15
  go_wp2_with fail
  rw [HW.out]
  refine (HC.out W).mono ?_
  rintro e w1 ⟨rfl, hB⟩
  obtain ⟨s0, s1, s2, s3, s4, s5, s6⟩ := (k1.later hB).seven
  have hz := (k1.later hB).lt
  have hT := then_below hB0 hB
  go_wp2_with fail
  refine (HT.out w1).mono ?_
  rintro e w2 ⟨rfl, hB2⟩
  go_wp2
  go_ret
  exact ⟨rfl, then_below hT hB2⟩

set_option maxRecDepth 100000 in
theorem acheck_no {d0 d1 d2 x y z : Int} {p q r t : Bool} (w : World) (h : ¬ (mayD d0 d1 d2 ∧ mayD x y z)) : Calls Tryz.prog 15 #[A3 d0 d1 d2, V7 x y z p q r t] w fun e W' => e = .returned (I 8) ∧ Below w.heap.size w W' := by
  obtain ⟨W, hW, hB0, k0, k1⟩ := two_start w #[I d0, I d1, I d2] #[I x, I y, I z, .bool p, .bool q, .bool r, .bool t] 23 26
  have HW : Hid ((w.alloc (.cells #[I d0, I d1, I d2] 23)).alloc (.cells #[I x, I y, I z, .bool p, .bool q, .bool r, .bool t] 26) = W) := hW
  clear hW
  by_cases hd : mayD d0 d1 d2
  · have HC : Hid (∀ w, Calls Tryz.prog 39 #[A3 d0 d1 d2] w fun e W' => e = .returned (I 0) ∧ Below w.heap.size w W') := fun w => check_yes w hd
    have HT : Hid (∀ w, Calls Tryz.prog 35 #[V7 x y z p q r t] w fun e W' => e = .returned (I 8) ∧ Below w.heap.size w W') := fun w => tcheck_no w (fun hx => h ⟨hd, hx⟩)
    clear hd h
    go_enter Tryz.func15, Tryz.ntmps15
    go_wp2_with fail
    rw [HW.out]
    refine (HC.out W).mono ?_
    rintro e w1 ⟨rfl, hB⟩
    obtain ⟨s0, s1, s2, s3, s4, s5, s6⟩ := (k1.later hB).seven
    have hz := (k1.later hB).lt
    have hT := then_below hB0 hB
    go_wp2_with fail
    refine (HT.out w1).mono ?_
    rintro e w2 ⟨rfl, hB2⟩
    go_wp2
    go_ret
    exact ⟨rfl, then_below hT hB2⟩
  · have HC : Hid (∀ w, Calls Tryz.prog 39 #[A3 d0 d1 d2] w fun e W' => e = .returned (I 8) ∧ Below w.heap.size w W') := fun w => check_no w hd
    clear hd h
    go_enter Tryz.func15, Tryz.ntmps15
    go_wp2_with fail
    rw [HW.out]
    refine (HC.out W).mono ?_
    rintro e w1 ⟨rfl, hB⟩
    have hT := then_below hB0 hB
    go_wp2
    go_ret
    exact ⟨rfl, hT⟩

set_option maxRecDepth 100000 in
/-- The sets, asked of dimensions that may be. -/
theorem asets_calls {d0 d1 d2 : Int} {mw lw : List Nat} {vm vl : Value} (w : World) (hd : mayD d0 d1 d2) (hM : Wds w vm mw) (hL : Wds w vl lw) :
    Calls Tryz.prog 16 #[A3 d0 d1 d2, vm, vl] w fun e W' => e = .returned (I (if mayW (d0 * d1 * d2).toNat mw lw then 0 else 8)) ∧ Below w.heap.size w W' := by
  have HN : Hid (∀ w, Calls Tryz.prog 40 #[A3 d0 d1 d2] w fun e W' => e = .returned (.tuple #[I (d0 * d1 * d2), I 0]) ∧ Below w.heap.size w W') := fun w => many_yes w hd
  have hb := N_bd hd
  obtain ⟨n, hn⟩ : ∃ n : Nat, d0 * d1 * d2 = n := ⟨(d0 * d1 * d2).toNat, by omega⟩
  have e3 : (3 * (n : Int)) = ((3 * n : Nat) : Int) := by omega
  have HA : Hid (∀ wx, Below w.heap.size w wx → Calls Tryz.prog 41 #[I n, vm] wx fun e W' => e = .returned (I (if maySet n mw then 0 else 8)) ∧ Below wx.heap.size wx W') := fun wx h => by
    have := chk_calls wx (hM.later h) n
    rw [errAll_one (by omega) (by omega)] at this
    exact this
  have HB : Hid (∀ wx, Below w.heap.size w wx → Calls Tryz.prog 41 #[I (3 * (n : Int)), vl] wx fun e W' => e = .returned (I (if maySet (3 * n) lw then 0 else 8)) ∧ Below wx.heap.size wx W') := fun wx h => by
    have := chk_calls wx (hL.later h) (3 * (n : Int))
    rw [e3, errAll_one (by omega) (by omega)] at this
    rw [e3]
    exact this
  rw [hn] at HN
  rw [hn, Int.toNat_natCast]
  unfold mayW
  generalize maySet n mw = g1 at *
  generalize maySet (3 * n) lw = g2 at *
  have hb1 : (n : Int) ≤ 4096 := by omega
  clear e3 hd hM hL hn hb
  cases g1
  · simp only [Bool.false_eq_true, if_false, Bool.false_and] at HA ⊢
    go_enter Tryz.func16, Tryz.ntmps16
    go_wp2_with fail
    refine (HN.out _).mono ?_
    rintro e w1 ⟨rfl, hB⟩
    have hT : Below w.heap.size w w1 := then_below ((Below.refl _ w).alloc (Nat.le_refl _) _) hB
    go_wp2_with fail
    refine (HA.out _ hT).mono ?_
    rintro e w2 ⟨rfl, hB2⟩
    go_wp2
    go_ret
    exact ⟨rfl, then_below hT hB2⟩
  · simp only [if_true, Bool.true_and] at HA ⊢
    generalize (if g2 = true then (0 : Int) else 8) = E2 at *
    go_enter Tryz.func16, Tryz.ntmps16
    go_wp2_with fail
    refine (HN.out _).mono ?_
    rintro e w1 ⟨rfl, hB⟩
    have hT : Below w.heap.size w w1 := then_below ((Below.refl _ w).alloc (Nat.le_refl _) _) hB
    go_wp2_with fail
    refine (HA.out _ hT).mono ?_
    rintro e w2 ⟨rfl, hB2⟩
    have hT2 := then_below hT hB2
    go_wp2_with fail
    refine (HB.out _ hT2).mono ?_
    rintro e w3 ⟨rfl, hB3⟩
    go_wp2
    go_ret
    exact ⟨rfl, then_below hT2 hB3⟩

/-- What lies in the parameter's box, and the result's. -/
structure PlnM (w : World) (x y z : Int) (p q r t : Bool) (W : World) : Prop where
  src : Blk W w.heap.size 26 #[I x, I y, I z, .bool p, .bool q, .bool r, .bool t]
  dst : Blk W (w.heap.size + 1) 26 #[I 0, I 0, I 0, .bool false, .bool false, .bool false, .bool false]
  below : Below w.heap.size w W
theorem PlnM.set0 {w W : World} {x y z : Int} {p q r t : Bool} (h : PlnM w x y z p q r t W) (u : Bool) : PlnM w x y z u q r t (W.setCell ⟨w.heap.size, 3, none⟩ (.bool u)) :=
  ⟨h.src.set 3 _, h.dst.other _ _ (by omega), h.below.setCell (p := ⟨w.heap.size, 3, none⟩) (Nat.le_refl _) _⟩
theorem PlnM.set1 {w W : World} {x y z : Int} {p q r t : Bool} (h : PlnM w x y z p q r t W) (u : Bool) : PlnM w x y z p u r t (W.setCell ⟨w.heap.size, 4, none⟩ (.bool u)) :=
  ⟨h.src.set 4 _, h.dst.other _ _ (by omega), h.below.setCell (p := ⟨w.heap.size, 4, none⟩) (Nat.le_refl _) _⟩
theorem PlnM.set2 {w W : World} {x y z : Int} {p q r t : Bool} (h : PlnM w x y z p q r t W) (u : Bool) : PlnM w x y z p q u t (W.setCell ⟨w.heap.size, 5, none⟩ (.bool u)) :=
  ⟨h.src.set 5 _, h.dst.other _ _ (by omega), h.below.setCell (p := ⟨w.heap.size, 5, none⟩) (Nat.le_refl _) _⟩

set_option maxRecDepth 100000 in
set_option maxHeartbeats 4000000 in
theorem plain_calls (x y z : Int) (p q r t : Bool) (w : World) :
    Calls Tryz.prog 27 #[V7 x y z p q r t] w fun e W' => e = .returned (V7 x y z (p && decide (1 < x)) (q && decide (1 < y)) (r && decide (1 < z)) t) ∧ Below w.heap.size w W' := by
  have M0 : PlnM w x y z p q r t ((w.alloc (.cells #[I x, I y, I z, .bool p, .bool q, .bool r, .bool t] 26)).alloc (.cells #[I 0, I 0, I 0, .bool false, .bool false, .bool false, .bool false] 26)) :=
    ⟨(Blk.new w _ _).alloc _, by have := Blk.new (w.alloc (.cells #[I x, I y, I z, .bool p, .bool q, .bool r, .bool t] 26)) 26 #[I 0, I 0, I 0, .bool false, .bool false, .bool false, .bool false]; simpa using this, ((Below.refl _ w).alloc (Nat.le_refl _) _).alloc (by simp) _⟩
  go_enter Tryz.func27, Tryz.ntmps27
  go_wp2
  go_loopw [7] (fun i wr => (i = .int .i64 0 ∧ PlnM w x y z p q r t wr) ∨ (i = .int .i64 1 ∧ PlnM w x y z (p && decide (1 < x)) q r t wr) ∨ (i = .int .i64 2 ∧ PlnM w x y z (p && decide (1 < x)) (q && decide (1 < y)) r t wr) ∨ (i = .int .i64 3 ∧ PlnM w x y z (p && decide (1 < x)) (q && decide (1 < y)) (r && decide (1 < z)) t wr)) (fun i _ => 3 - (RowKit.intOf i).toNat)
  case atStart => exact .inl ⟨rfl, M0⟩
  case round =>
    clear M0
    rcases hrel with ⟨rfl, M⟩ | ⟨rfl, M⟩ | ⟨rfl, M⟩ | ⟨rfl, M⟩
    · have HM : Hid (PlnM w x y z p q r t wr) := M
      obtain ⟨s0, s1, s2, s3, s4, s5, s6⟩ := M.src.seven
      have f3 := M.src.frozen 3
      have hz := M.src.lt
      clear M
      cases p
      · go_wp2
        go_roundw
        case rel => exact .inr (.inl ⟨rfl, HM.out.set0 _⟩)
        case measure => simp [RowKit.intOf]
      · go_wp2
        go_roundw
        case rel => exact .inr (.inl ⟨rfl, HM.out.set0 _⟩)
        case measure => simp [RowKit.intOf]
    · generalize (p && decide (1 < x)) = p1 at *
      have HM : Hid (PlnM w x y z p1 q r t wr) := M
      obtain ⟨s0, s1, s2, s3, s4, s5, s6⟩ := M.src.seven
      have f3 := M.src.frozen 4
      have hz := M.src.lt
      clear M
      cases q
      · go_wp2
        go_roundw
        case rel => exact .inr (.inr (.inl ⟨rfl, HM.out.set1 _⟩))
        case measure => simp [RowKit.intOf]
      · go_wp2
        go_roundw
        case rel => exact .inr (.inr (.inl ⟨rfl, HM.out.set1 _⟩))
        case measure => simp [RowKit.intOf]
    · generalize (p && decide (1 < x)) = p1 at *
      generalize (q && decide (1 < y)) = q1 at *
      have HM : Hid (PlnM w x y z p1 q1 r t wr) := M
      obtain ⟨s0, s1, s2, s3, s4, s5, s6⟩ := M.src.seven
      have f3 := M.src.frozen 5
      have hz := M.src.lt
      clear M
      cases r
      · go_wp2
        go_roundw
        case rel => exact .inr (.inr (.inr ⟨rfl, HM.out.set2 _⟩))
        case measure => simp [RowKit.intOf]
      · go_wp2
        go_roundw
        case rel => exact .inr (.inr (.inr ⟨rfl, HM.out.set2 _⟩))
        case measure => simp [RowKit.intOf]
    · generalize hp1 : (p && decide (1 < x)) = p1 at M
      generalize hq1 : (q && decide (1 < y)) = q1 at M
      generalize hr1 : (r && decide (1 < z)) = r1 at M
      have HE : Hid (V7 x y z (p && decide (1 < x)) (q && decide (1 < y)) (r && decide (1 < z)) t = V7 x y z p1 q1 r1 t) := by
        show _ = _
        rw [hp1, hq1, hr1]
      clear hp1 hq1 hr1
      obtain ⟨s0, s1, s2, s3, s4, s5, s6⟩ := M.src.seven
      have hz := M.src.lt
      obtain ⟨c0, c1, c2, c3, c4, c5, c6⟩ := M.dst.seven
      obtain ⟨f0, f1, f2, f3, f4, f5, f6⟩ := M.dst.seven_open
      have hz2 := M.dst.lt
      have hB := M.below
      have R := M.dst
      clear M
      go_wp2
      obtain ⟨j0, j1, j2, j3, j4, j5, j6⟩ := (R.set7 (.int .i64 x) (.int .i64 y) (.int .i64 z) (.bool p1) (.bool q1) (.bool r1) (.bool t)).seven
      exact bodyPost_ret (v := V7 x y z p1 q1 r1 t) (by simp [results, Tryz.f27, go_sem, j0, j1, j2, j3, j4, j5, j6]) rfl ⟨by rw [HE.out], below_set7 hB (by omega) _ _ _ _ _ _ _⟩

abbrev W7 (u : Wt) : Value := V7 u.1 u.2.1 u.2.2.1 u.2.2.2.1 u.2.2.2.2.1 u.2.2.2.2.2.1 u.2.2.2.2.2.2

end Go.Proofs.YtlahfffgmfjpaaaGreatDoor

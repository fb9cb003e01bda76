/-
  turn.All: the rotations, rising.
-/
import Derived.Test.YtanhhlekbdhfmaaDoorTurnRot
import Derived.Test.YtanhhlekbdhfmaaDoorTurnSort
namespace Go.Proofs.YtanhhlekbdhfmaaDoor
open Go Go.RowKit Go.Shelf

attribute [local go_sem] Oper.semAt_some ext_const

theorem accT_mem {w u : Wt} : ∀ {k : Nat}, u ∈ accT w k ↔ ∃ j, j < k ∧ byOrd w j = u
  | 0 => by simp [accT]
  | k + 1 => by
    have ih := accT_mem (w := w) (u := u) (k := k)
    by_cases h : byOrd w k ∈ accT w k
    · rw [accT_old h, ih]
      constructor
      · rintro ⟨j, hj, e⟩; exact ⟨j, by omega, e⟩
      · rintro ⟨j, hj, e⟩
        by_cases hjk : j = k
        · subst hjk
          exact ih.1 (e ▸ h)
        · exact ⟨j, by omega, e⟩
    · rw [accT_new h, List.mem_append, ih, List.mem_singleton]
      constructor
      · rintro (⟨j, hj, e⟩ | e)
        · exact ⟨j, by omega, e⟩
        · exact ⟨k, by omega, e.symm⟩
      · rintro ⟨j, hj, e⟩
        by_cases hjk : j = k
        · subst hjk; exact .inr e.symm
        · exact .inl ⟨j, by omega, e⟩
theorem accT_nodup (w : Wt) : ∀ k, (accT w k).Nodup
  | 0 => by simp [accT]
  | k + 1 => by
    have ih := accT_nodup w k
    by_cases h : byOrd w k ∈ accT w k
    · rw [accT_old h]; exact ih
    · rw [accT_new h]
      exact List.nodup_append.2 ⟨ih, by simp, fun a ha b hb e => by rw [List.mem_singleton.1 hb] at e; exact h (e ▸ ha)⟩
theorem accT_six (w u : Wt) : u ∈ accT w 6 ↔ u ∈ six w := by
  rw [accT_mem]
  obtain ⟨x, y, z, p, q, r, t⟩ := w
  have e0 : byOrd (x, y, z, p, q, r, t) 0 = (x, y, z, p, q, r, t) := rfl
  have e1 : byOrd (x, y, z, p, q, r, t) 1 = (x, z, y, p, r, q, t) := rfl
  have e2 : byOrd (x, y, z, p, q, r, t) 2 = (y, x, z, q, p, r, t) := rfl
  have e3 : byOrd (x, y, z, p, q, r, t) 3 = (y, z, x, q, r, p, t) := rfl
  have e4 : byOrd (x, y, z, p, q, r, t) 4 = (z, x, y, r, p, q, t) := rfl
  have e5 : byOrd (x, y, z, p, q, r, t) 5 = (z, y, x, r, q, p, t) := rfl
  simp only [six, others, s01, s02, s12, List.mem_cons, List.not_mem_nil, or_false]
  constructor
  · rintro ⟨j, hj, e⟩
    match j, hj with
    | 0, _ => rw [e0] at e; exact .inl e.symm
    | 1, _ => rw [e1] at e; exact .inr (.inr (.inr (.inl e.symm)))
    | 2, _ => rw [e2] at e; exact .inr (.inl e.symm)
    | 3, _ => rw [e3] at e; exact .inr (.inr (.inr (.inr (.inl e.symm))))
    | 4, _ => rw [e4] at e; exact .inr (.inr (.inr (.inr (.inr e.symm))))
    | 5, _ => rw [e5] at e; exact .inr (.inr (.inl e.symm))
  · rintro (e | e | e | e | e | e)
    · exact ⟨0, by omega, by rw [e0, e]⟩
    · exact ⟨2, by omega, by rw [e2, e]⟩
    · exact ⟨5, by omega, by rw [e5, e]⟩
    · exact ⟨1, by omega, by rw [e1, e]⟩
    · exact ⟨3, by omega, by rw [e3, e]⟩
    · exact ⟨4, by omega, by rw [e4, e]⟩

theorem rots_len (w : Wt) : (rotsT w).length ≤ 6 := by
  unfold rotsT
  split
  · exact accT_len w 6
  · simp
theorem rots_some (w : Wt) : rotsT w ≠ [] := by
  unfold rotsT
  split
  · intro h
    have : byOrd w 0 ∈ accT w 6 := accT_mem.2 ⟨0, by omega, rfl⟩
    rw [h] at this; cases this
  · simp
theorem rots_mem (w u : Wt) : u ∈ rotsT w ↔ u ∈ turnsT w := by
  unfold rotsT
  by_cases h : turnT w = true
  · rw [if_pos h, accT_six, turns_mem h]
  · rw [if_neg h]
    unfold turnsT
    rw [if_neg h]
theorem rots_nodup (w : Wt) : (rotsT w).Nodup := by
  unfold rotsT
  split
  · exact accT_nodup w 6
  · simp
theorem turns_may {w u : Wt} (hw : mayT w) (hu : u ∈ turnsT w) : mayT u ∧ turnT u = turnT w := by
  by_cases h : turnT w = true
  · exact six_may hw ((turns_mem h).1 hu)
  · unfold turnsT at hu
    rw [if_neg h, List.mem_singleton] at hu
    rw [hu]; exact ⟨hw, rfl⟩
/-- Sorted, they are the rotations, rising. -/
theorem sorted_rots {w : Wt} {l : List Wt} (hw : mayT w) (hp : l.Perm (rotsT w)) (hs : ∀ i j (hi : i < l.length) (hj : j < l.length), i < j → lessT l[j] l[i] = false) : l = turnsT w := by
  have hm : ∀ u, u ∈ l ↔ u ∈ turnsT w := fun u => by rw [hp.mem_iff, rots_mem]
  refine rises_ext ?_ (turns_rises hw) hm
  refine List.pairwise_iff_getElem.2 fun i j hi hj hij => ?_
  have hn : l.Nodup := hp.nodup_iff.2 (rots_nodup w)
  have h1 := turns_may hw ((hm _).1 (List.getElem_mem hi))
  have h2 := turns_may hw ((hm _).1 (List.getElem_mem hj))
  have hl := hs i j hi hj hij
  rw [less_key h2.1 h1.1, decide_eq_false_iff_not] at hl
  have hne : keyT l[i] ≠ keyT l[j] := fun e => by
    have := key_inj h1.1 h2.1 (h1.2.trans h2.2.symm) e
    have := (List.getElem_inj hn).1 this
    omega
  omega

theorem rots_calls {x y z : Int} {p q r t : Bool} (w : World) (hO : OrdOk w) (hm : mayT (x, y, z, p, q, r, t)) :
    Calls Tryd.prog 19 #[V7 x y z p q r t] w fun e W' => ∃ v, e = .returned v ∧ Wl W' w.heap.size v (rotsT (x, y, z, p, q, r, t)) ∧ Below w.heap.size w W' := by
  cases t
  · exact rot_one w
  · exact rot_six w hO hm

set_option maxRecDepth 100000 in
set_option maxHeartbeats 1000000 in
theorem all_no {x y z : Int} {p q r t : Bool} (w : World) (hm : ¬ mayD x y z) :
    Calls Tryd.prog 7 #[V7 x y z p q r t] w fun e W' => e = .returned (.tuple #[.slice none 0 0, I 8]) ∧ Below w.heap.size w W' := by
  have hc := fun w => tcheck_no (p := p) (q := q) (r := r) (t := t) w hm
  clear hm
  have hB : Below w.heap.size w (w.alloc (.cells (cells7 x y z p q r t) 29)) := (Below.refl _ w).alloc (Nat.le_refl _) _
  go_enter Tryd.func7, Tryd.ntmps7
  go_wp2_with fail
  refine (hc _).mono ?_
  rintro e w1 ⟨rfl, hT⟩
  go_wp2_with fail
  go_ret2
  exact ⟨rfl, then_below hB hT⟩

set_option maxRecDepth 100000 in
set_option maxHeartbeats 1000000 in
theorem all_yes {x y z : Int} {p q r t : Bool} (w : World) (hO : OrdOk w) (hm : mayD x y z) :
    Calls Tryd.prog 7 #[V7 x y z p q r t] w fun e W' => ∃ v, e = .returned (.tuple #[v, I 0]) ∧ Wl W' w.heap.size v (turnsT (x, y, z, p, q, r, t)) ∧ Below w.heap.size w W' := by
  have hmT : mayT (x, y, z, p, q, r, t) := mayT_D.2 hm
  have hc := fun w => tcheck_yes (p := p) (q := q) (r := r) (t := t) w hm
  have hr := fun (w : World) (hO : OrdOk w) => rots_calls w hO hmT
  have HS : Hid (∀ l : List Wt, l.Perm (rotsT (x, y, z, p, q, r, t)) → (∀ i j (hi : i < l.length) (hj : j < l.length), i < j → lessT l[j] l[i] = false) → l = turnsT (x, y, z, p, q, r, t)) := fun l => sorted_rots hmT
  have HN : Hid ((rotsT (x, y, z, p, q, r, t)).length ≤ 12 ∧ rotsT (x, y, z, p, q, r, t) ≠ []) := ⟨by have := rots_len (x, y, z, p, q, r, t); omega, rots_some _⟩
  generalize turnsT (x, y, z, p, q, r, t) = ts at HS ⊢
  generalize rotsT (x, y, z, p, q, r, t) = rs at HS HN hr
  clear hm hmT
  have HO : Hid (OrdOk w) := hO
  clear hO
  have hB : Below w.heap.size w (w.alloc (.cells (cells7 x y z p q r t) 29)) := (Below.refl _ w).alloc (Nat.le_refl _) _
  have b0 : Blk (w.alloc (.cells (cells7 x y z p q r t) 29)) w.heap.size 29 (cells7 x y z p q r t) := Blk.new w _ _
  go_enter Tryd.func7, Tryd.ntmps7
  go_wp2_with fail
  refine (hc _).mono ?_
  rintro e w1 ⟨rfl, hT⟩
  obtain ⟨s0, s1, s2, s3, s4, s5, s6⟩ := (b0.later hT).seven
  have hT1 := then_below hB hT
  clear hc hT b0
  go_wp2_with fail
  refine (hr _ (HO.out.later hT1)).mono ?_
  rintro e w2 ⟨v, rfl, hW, hB2⟩
  have hT2 := then_below hT1 hB2
  have hW' := hW.weak hT1.size
  have hv : ∀ g, v.ownBlock = some g → w.heap.size ≤ g := fun g hg => (World.ownsRow.lt hW' g hg).1
  have HL : Hid (Wl w2 w.heap.size v rs) := hW'
  clear hr hW hW' hB2 s0 s1 s2 s3 s4 s5 s6 hB
  go_wp2_with fail
  refine (sort_calls _ HL.out HN.out.1 HN.out.2).mono ?_
  rintro e w3 ⟨rfl, ws', hW3, hp, hs, hG⟩
  have hT3 := hT2.grown hG hT2.size hv
  obtain rfl := HS.out ws' hp hs
  clear hs hp
  go_wp2_with fail
  go_ret2
  exact ⟨_, rfl, hW3, hT3⟩

end Go.Proofs.YtanhhlekbdhfmaaDoor

/-
  Plain arithmetic of places: how many midplanes a box has, and how many cables a place takes. No program is named here.
-/
import Derived.Test.YtldcagjnngkabaaGreatDoorPart29
import Derived.Test.YtldcagjnngkabaaGreatDoorPart31
import Derived.Test.YtldcagjnngkabaaGreatDoorPart30
namespace Go.Proofs.YtldcagjnngkabaaGreatDoor
open Go.RowKit

theorem flatP_len {α β : Type} {f : α → List β} {c : Nat} : ∀ {l : List α}, (∀ a ∈ l, (f a).length = c) → (l.flatMap f).length = l.length * c
  | [], _ => by simp
  | a :: l, h => by
    rw [List.flatMap_cons, List.length_append, h a (by simp), flatP_len (fun b hb => h b (by simp [hb])), List.length_cons, Nat.add_mul, Nat.one_mul, Nat.add_comm]

theorem coords_count {r b s : Int} (hr : r ≤ 16) (hb : 0 ≤ b ∧ b < r) (hs : 0 ≤ s ∧ s ≤ r) : (coordsS r b s).length = s.toNat := by
  obtain ⟨R, rfl⟩ := Int.eq_ofNat_of_zero_le (show 0 ≤ r by omega)
  obtain ⟨B, rfl⟩ := Int.eq_ofNat_of_zero_le hb.1
  obtain ⟨S, rfl⟩ := Int.eq_ofNat_of_zero_le hs.1
  unfold coordsS coordsTo
  rw [List.length_map, Int.toNat_natCast, Int.toNat_natCast]
  exact side_count R (by omega) B (by omega) S (by omega)

/-- A side that may be, or has nothing. -/
def sideOk (r b s : Int) : Prop := (0 ≤ b ∧ b < r) ∧ (0 ≤ s ∧ s ≤ r)
theorem nodes_count {d0 d1 d2 : Int} {b : Bx} (h : mayD d0 d1 d2) (hs : ∀ k, sideOk (dimAt d0 d1 d2 k) (bAt b k) (sAt b k)) : ((nodesB d0 d1 d2 b).length : Int) = b.a * b.b * b.c := by
  have h' := h
  obtain ⟨⟨_, u0⟩, ⟨_, u1⟩, _, u2⟩ := h'
  have s0 := hs 0
  have s1 := hs 1
  have s2 := hs 2
  have c0 := coords_count (r := d0) (b := b.x) (s := b.a) u0 s0.1 s0.2
  have c1 := coords_count (r := d1) (b := b.y) (s := b.b) u1 s1.1 s1.2
  have c2 := coords_count (r := d2) (b := b.z) (s := b.c) u2 s2.1 s2.2
  rw [← nodesB_flat h, flatP_len (c := (coordsS d1 b.y b.b).length * (coordsS d0 b.x b.a).length) (fun z _ => flatP_len (fun y _ => by rw [List.length_map])), c0, c1, c2]
  have e0 : (b.a.toNat : Int) = b.a := Int.toNat_of_nonneg s0.2.1
  have e1 : (b.b.toNat : Int) = b.b := Int.toNat_of_nonneg s1.2.1
  have e2 : (b.c.toNat : Int) = b.c := Int.toNat_of_nonneg s2.2.1
  rw [Int.natCast_mul, Int.natCast_mul, e0, e1, e2, Int.mul_comm b.c, Int.mul_comm b.b]

/-- The box of those midplanes from which the cables go that a place takes along an axis. -/
def boxK (d0 d1 d2 : Int) (b : Bx) (t0 t1 t2 : Bool) (k : Fin 3) : Bx := upB b (runS (dimAt d0 d1 d2 k) (sAt b k) (tK t0 t1 t2 k)) k
/-- A cable is taken. -/
def cabB (d0 d1 d2 : Int) (b : Bx) (t0 t1 t2 : Bool) (n : Int) : Bool :=
  let N := d0 * d1 * d2
  if n < N then hasB d0 d1 d2 (boxK d0 d1 d2 b t0 t1 t2 0) n else if n < 2 * N then hasB d0 d1 d2 (boxK d0 d1 d2 b t0 t1 t2 1) (n - N) else hasB d0 d1 d2 (boxK d0 d1 d2 b t0 t1 t2 2) (n - 2 * N)
theorem cabB_at {d0 d1 d2 o : Int} {b : Bx} {t0 t1 t2 : Bool} (ho : 0 ≤ o ∧ o < d0 * d1 * d2) (k : Fin 3) : cabB d0 d1 d2 b t0 t1 t2 (cabW d0 d1 d2 k o) = hasB d0 d1 d2 (boxK d0 d1 d2 b t0 t1 t2 k) o := by
  rcases fin3 k with rfl | rfl | rfl
  · have e : cabW d0 d1 d2 0 o = o := by unfold cabW; simp only [axI]; omega
    rw [e]
    unfold cabB
    rw [if_pos ho.2]
  · have e : cabW d0 d1 d2 1 o = d0 * d1 * d2 + o := by unfold cabW; simp only [axI]; omega
    rw [e]
    unfold cabB
    rw [if_neg (by omega), if_pos (by omega), show d0 * d1 * d2 + o - d0 * d1 * d2 = o by omega]
  · have e : cabW d0 d1 d2 2 o = 2 * (d0 * d1 * d2) + o := by unfold cabW; simp only [axI]
    rw [e]
    unfold cabB
    rw [if_neg (by omega), if_neg (by omega), show 2 * (d0 * d1 * d2) + o - 2 * (d0 * d1 * d2) = o by omega]

theorem nodesB_filter (d0 d1 d2 : Int) (b : Bx) : (nodesB d0 d1 d2 b).length = ((List.range (d0 * d1 * d2).toNat).filter fun m : Nat => hasB d0 d1 d2 b (m : Int)).length := by
  unfold nodesB nodesTo
  rw [List.length_map]
theorem filter_shift {N a : Nat} {p q : Nat → Bool} (h : ∀ o, o < N → p (a + o) = q o) : (((List.range N).map (a + ·)).filter p).length = ((List.range N).filter q).length := by
  rw [List.filter_map, List.length_map]
  congr 1
  exact List.filter_congr fun o ho => h o (List.mem_range.1 ho)
/-- How many cables a place takes. -/
theorem cab_count {d0 d1 d2 : Int} {b : Bx} {t0 t1 t2 : Bool} (h : mayD d0 d1 d2) :
    ((List.range (3 * (d0 * d1 * d2)).toNat).filter fun n : Nat => cabB d0 d1 d2 b t0 t1 t2 (n : Int)).length =
      (nodesB d0 d1 d2 (boxK d0 d1 d2 b t0 t1 t2 0)).length + (nodesB d0 d1 d2 (boxK d0 d1 d2 b t0 t1 t2 1)).length + (nodesB d0 d1 d2 (boxK d0 d1 d2 b t0 t1 t2 2)).length := by
  have hN := N_bd h
  have key : ∀ (k : Fin 3) (o : Int), 0 ≤ o ∧ o < d0 * d1 * d2 → cabB d0 d1 d2 b t0 t1 t2 (axI k * (d0 * d1 * d2) + o) = hasB d0 d1 d2 (boxK d0 d1 d2 b t0 t1 t2 k) o := fun k o ho => cabB_at ho k
  rw [nodesB_filter, nodesB_filter, nodesB_filter]
  obtain ⟨N, hNN⟩ := Int.eq_ofNat_of_zero_le (show 0 ≤ d0 * d1 * d2 by omega)
  rw [hNN] at key ⊢
  have e3 : (3 * ((N : Nat) : Int)).toNat = N + N + N := by omega
  rw [e3, Int.toNat_natCast, List.range_add, List.range_add, List.filter_append, List.filter_append, List.length_append, List.length_append]
  congr 1
  · congr 1
    · congr 1
      refine List.filter_congr fun o ho => ?_
      have ho := List.mem_range.1 ho
      have := key 0 (o : Int) (by omega)
      simp only [axI] at this
      rw [← this]
      congr 1
      omega
    · refine filter_shift fun o ho => ?_
      have := key 1 (o : Int) (by omega)
      simp only [axI] at this
      rw [← this]
      congr 1
      push_cast
      omega
  · refine filter_shift fun o ho => ?_
    have := key 2 (o : Int) (by omega)
    simp only [axI] at this
    rw [← this]
    congr 1
    push_cast
    omega

end Go.Proofs.YtldcagjnngkabaaGreatDoor

/-
  Plain arithmetic of places: which midplanes a place passes; places whose boxes do not meet. No program is named here.
-/
namespace Go.Proofs.YtldcagjnngkabaaGreatDoor
open Go.RowKit

/-- A place takes the cable from a midplane along an axis. -/
def takes (d0 d1 d2 : Int) (b : Bx) (t0 t1 t2 : Bool) (k : Fin 3) (m : Int) : Bool := hasB d0 d1 d2 (boxK d0 d1 d2 b t0 t1 t2 k) m
/-- It passes a midplane. -/
def passB (d0 d1 d2 : Int) (b : Bx) (t0 t1 t2 : Bool) (m : Int) : Prop :=
  hasB d0 d1 d2 b m = false ∧ ∃ k, 1 < dimAt d0 d1 d2 k ∧ (takes d0 d1 d2 b t0 t1 t2 k m = true ∨ takes d0 d1 d2 b t0 t1 t2 k (onD d0 d1 d2 m k (-1)) = true)
/-- It is a torus along an axis and not as long as the dimension. -/
def opens (d0 d1 d2 : Int) (b : Bx) (t0 t1 t2 : Bool) (k : Fin 3) : Prop := tK t0 t1 t2 k = true ∧ sAt b k < dimAt d0 d1 d2 k

theorem hasS_whole {r b c : Int} (hb : 0 ≤ b ∧ b < r) (hc : 0 ≤ c ∧ c < r) : hasS r b r c = true := by
  have := aft_bd hb hc
  simp only [hasS, decide_eq_true_eq]
  omega

theorem torus_takes {d0 d1 d2 m : Int} {b : Bx} {t0 t1 t2 : Bool} (h : mayD d0 d1 d2) (hb : mayB d0 d1 d2 b) (hm : 0 ≤ m ∧ m < d0 * d1 * d2) {k : Fin 3} (ht : tK t0 t1 t2 k = true) :
    takes d0 d1 d2 b t0 t1 t2 k m = true ↔ ∀ j, j ≠ k → hasS (dimAt d0 d1 d2 j) (bAt b j) (sAt b j) (coK d0 d1 m j) = true := by
  unfold takes boxK
  rw [upB_has, ht]
  have e : runS (dimAt d0 d1 d2 k) (sAt b k) true = dimAt d0 d1 d2 k := by simp [runS]
  rw [e]
  exact ⟨fun h => h.2, fun h' => ⟨hasS_whole (mayB_at hb k).2 (co_bd h hm k), h'⟩⟩
theorem mesh_takes {d0 d1 d2 m : Int} {b : Bx} {t0 t1 t2 : Bool} (h : mayD d0 d1 d2) (hb : mayB d0 d1 d2 b) (hm : 0 ≤ m ∧ m < d0 * d1 * d2) {k : Fin 3} (ht : tK t0 t1 t2 k = false)
    (hu : takes d0 d1 d2 b t0 t1 t2 k m = true) : hasB d0 d1 d2 b m = true ∧ hasB d0 d1 d2 b (onD d0 d1 d2 m k 1) = true := by
  unfold takes boxK at hu
  rw [ht] at hu
  exact mesh_ends h hb hm k hu

theorem on_back {d0 d1 d2 m : Int} (h : mayD d0 d1 d2) (hm : 0 ≤ m ∧ m < d0 * d1 * d2) (k : Fin 3) : onD d0 d1 d2 (onD d0 d1 d2 m k (-1)) k 1 = m := by
  rw [on_on h hm, show (-1 : Int) + 1 = 0 by omega]
  exact on_round h hm k 0 (.inl rfl)

/-- Where each axis along which it is a torus is taken whole, it passes none. -/
theorem pass_none {d0 d1 d2 m : Int} {b : Bx} {t0 t1 t2 : Bool} (h : mayD d0 d1 d2) (hb : mayB d0 d1 d2 b) (hm : 0 ≤ m ∧ m < d0 * d1 * d2) (ho : ∀ k, ¬ opens d0 d1 d2 b t0 t1 t2 k) : ¬ passB d0 d1 d2 b t0 t1 t2 m := by
  rintro ⟨hno, k, _, ht⟩
  have hp := on_node h hm k (-1)
  have key : hasB d0 d1 d2 b m = true := by
    cases hk : tK t0 t1 t2 k
    · rcases ht with ht | ht
      · exact (mesh_takes h hb hm hk ht).1
      · have := (mesh_takes h hb hp hk ht).2
        rwa [on_back h hm k] at this
    · have hs : sAt b k = dimAt d0 d1 d2 k := by
        have h1 := (mayB_at hb k).1.2
        have h2 : ¬ sAt b k < dimAt d0 d1 d2 k := fun hlt => ho k ⟨hk, hlt⟩
        omega
      have hall : ∀ j, j ≠ k → hasS (dimAt d0 d1 d2 j) (bAt b j) (sAt b j) (coK d0 d1 m j) = true := by
        rcases ht with ht | ht
        · exact (torus_takes h hb hm hk).1 ht
        · intro j hj
          have := (torus_takes h hb hp hk).1 ht j hj
          rwa [co_on h hm k (-1) j, if_neg hj] at this
      rw [hasB_iff]
      intro j
      by_cases hj : j = k
      · subst hj
        rw [hs]
        exact hasS_whole (mayB_at hb j).2 (co_bd h hm j)
      · exact hall j hj
  rw [key] at hno
  cases hno

/-- The midplane at which a box begins. -/
def baseN (d0 d1 : Int) (b : Bx) : Int := numD d0 d1 b.x b.y b.z
theorem base_node {d0 d1 d2 : Int} {b : Bx} (h : mayD d0 d1 d2) (hb : mayB d0 d1 d2 b) : (0 ≤ baseN d0 d1 b ∧ baseN d0 d1 b < d0 * d1 * d2) ∧ ∀ k, coK d0 d1 (baseN d0 d1 b) k = bAt b k := by
  obtain ⟨b0, b1, b2⟩ := hb
  obtain ⟨hn, hx, hy, hz⟩ := node_of_in h (p0 := b.x) (p1 := b.y) (p2 := b.z) ⟨b0.2, b1.2, b2.2⟩
  refine ⟨hn, fun k => ?_⟩
  rcases fin3 k with rfl | rfl | rfl
  · exact hx
  · exact hy
  · exact hz
theorem base_has {d0 d1 d2 : Int} {b : Bx} (h : mayD d0 d1 d2) (hb : mayB d0 d1 d2 b) : hasB d0 d1 d2 b (baseN d0 d1 b) = true := by
  rw [hasB_iff]
  intro k
  rw [(base_node h hb).2 k]
  exact hasS_base (mayB_at hb k)

/-- Else it passes one. -/
theorem pass_some {d0 d1 d2 : Int} {b : Bx} {t0 t1 t2 : Bool} (h : mayD d0 d1 d2) (hb : mayB d0 d1 d2 b) {k : Fin 3} (ho : opens d0 d1 d2 b t0 t1 t2 k) : ∃ m, (0 ≤ m ∧ m < d0 * d1 * d2) ∧ passB d0 d1 d2 b t0 t1 t2 m := by
  obtain ⟨ht, hlt⟩ := ho
  obtain ⟨hn, hc⟩ := base_node h hb
  have hm := on_node h hn k (sAt b k)
  have hco := co_on h hn k (sAt b k)
  have hs := (mayB_at hb k).1
  have hbk := (mayB_at hb k).2
  refine ⟨onD d0 d1 d2 (baseN d0 d1 b) k (sAt b k), hm, ?_, k, by omega, .inl ?_⟩
  · cases hh : hasB d0 d1 d2 b (onD d0 d1 d2 (baseN d0 d1 b) k (sAt b k))
    · rfl
    · have := hasB_iff.1 hh k
      rw [hco k, if_pos rfl, hc k, on_rem hbk ⟨by omega, hlt⟩] at this
      unfold hasS at this
      have hx := of_decide_eq_true this
      clear this
      unfold aft at hx
      split at hx <;> split at hx <;> omega
  · rw [torus_takes h hb hm ht]
    intro j hj
    rw [hco j, if_neg hj, hc j]
    exact hasS_base (mayB_at hb j)

/-- Places whose boxes do not meet have, as meshes, no cable in common. -/
theorem mesh_apart {d0 d1 d2 m : Int} {a b : Bx} (h : mayD d0 d1 d2) (ha : mayB d0 d1 d2 a) (hb : mayB d0 d1 d2 b) (hm : 0 ≤ m ∧ m < d0 * d1 * d2) (k : Fin 3)
    (u : takes d0 d1 d2 a false false false k m = true) (v : takes d0 d1 d2 b false false false k m = true) : meetB d0 d1 d2 a b = true := by
  have hk : tK false false false k = false := by rcases fin3 k with rfl | rfl | rfl <;> rfl
  exact (meetB_iff h ha hb).2 ⟨m, hm, (mesh_takes h ha hm hk u).1, (mesh_takes h hb hm hk v).1⟩

end Go.Proofs.YtldcagjnngkabaaGreatDoor

/-
  pos.Step: the midplane some steps on, for every input; nothing that lay before is turned.
-/
namespace Go.Proofs.YtldcagjnngkabaaGreatDoor
open Go.RowKit Go.Shelf

attribute [local go_sem] Oper.semAt_some ext_const

theorem around_calls {k n : Int} (w : World) (hk : -n < k) (hk2 : k ≤ 1000) (h1 : 1 ≤ n) (h2 : n ≤ 16) :
    Calls Tryz.prog 206 #[I k, I n] w fun e w' => e = .returned (I (k % n)) ∧ w' = w := by
  have E : Hid ((k + n) % n = k % n) := Int.add_emod_right k n
  go_enter Tryz.func206, Tryz.ntmps206
  go_wp2
  go_ret
  rw [← E.out]
  exact ⟨rfl, rfl⟩

set_option maxHeartbeats 400000 in
theorem step_err {d0 d1 d2 : Int} (m axis by_ e : Int) (w : World) (he : (e != 0) = true)
    (hc : ∀ w, Calls Tryz.prog 205 #[A3 d0 d1 d2, I m] w fun x W' => x = .returned (.tuple #[A3 0 0 0, I e]) ∧ Below w.heap.size w W') :
    Calls Tryz.prog 198 #[A3 d0 d1 d2, I m, I axis, I by_] w fun x W' => x = .returned (.tuple #[I 0, I e]) ∧ Below w.heap.size w W' := by
  have HH : Hid (∀ w, Calls Tryz.prog 205 #[A3 d0 d1 d2, I m] w fun x W' => x = .returned (.tuple #[A3 0 0 0, I e]) ∧ Below w.heap.size w W') := hc
  clear hc
  go_enter Tryz.func198, Tryz.ntmps198
  go_wp2_with fail
  refine (HH.out _).mono ?_
  rintro x w1 ⟨rfl, hB⟩
  go_wp2
  go_ret2
  exact ⟨rfl, (((Below.refl _ w).alloc (Nat.le_refl _) _).trans (hB.mono (by simp))).alloc (by have := hB.size; simp at this; omega) _⟩

set_option maxHeartbeats 400000 in
theorem step_axis {d0 d1 d2 m axis by_ : Int} (w : World) (hm : mayD d0 d1 d2) (hn : 0 ≤ m ∧ m < d0 * d1 * d2) (ha : ¬ (0 ≤ axis ∧ axis < 3)) :
    Calls Tryz.prog 198 #[A3 d0 d1 d2, I m, I axis, I by_] w fun x W' => x = .returned (.tuple #[I 0, I 2]) ∧ Below w.heap.size w W' := by
  have hb : belowB axis 3 = false := by simp [belowB]; omega
  have HN : Hid (0 ≤ m ∧ m < d0 * d1 * d2) := hn
  clear hn ha
  go_enter Tryz.func198, Tryz.ntmps198
  go_wp2_with fail
  refine (of_yes _ hm HN.out).mono ?_
  rintro x w1 ⟨rfl, hB⟩
  go_wp2_with fail
  refine (below_calls _ _ _).mono ?_
  rintro x w2 ⟨rfl, rfl⟩
  go_wp2
  go_ret2
  exact ⟨rfl, (((Below.refl _ w).alloc (Nat.le_refl _) _).trans (hB.mono (by simp))).alloc (by have := hB.size; simp at this; omega) _⟩


set_option maxRecDepth 100000 in
set_option maxHeartbeats 1000000 in
theorem step_yes {d0 d1 d2 m by_ : Int} (w : World) (hm : mayD d0 d1 d2) (hn : 0 ≤ m ∧ m < d0 * d1 * d2) (k : Fin 3) :
    Calls Tryz.prog 198 #[A3 d0 d1 d2, I m, I (axI k), I by_] w fun x W' => x = .returned (.tuple #[I (onD d0 d1 d2 m k by_), I 0]) ∧ Below w.heap.size w W' := by
  have HN : Hid (0 ≤ m ∧ m < d0 * d1 * d2) := hn
  have hin := inD_of_node hm hn
  have hon := inD_on hm hn by_
  have hd := hm
  unfold inD at hin
  unfold mayD okD at hd
  clear hn
  rcases fin3 k with rfl | rfl | rfl
  · simp only [axI, onD]
    have hb : belowB 0 3 = true := by simp [belowB]
    obtain ⟨ht1, ht2, ht3⟩ := tmod_bd by_ d0 (by omega)
    have HT : Hid ((cx d0 m + by_.tmod d0) % d0 = (cx d0 m + by_) % d0) := ht3 _
    clear ht3
    go_enter Tryz.func198, Tryz.ntmps198
    go_wp2_with fail
    refine (of_yes _ hm HN.out).mono ?_
    rintro x w1 ⟨rfl, hB⟩
    go_wp2_with fail
    refine (below_calls _ _ _).mono ?_
    rintro x w2 ⟨rfl, rfl⟩
    go_wp2_with fail
    obtain ⟨W, hW⟩ : ∃ W, w1.alloc (.cells #[I (cx d0 m), I (cy d0 d1 m), I (cz d0 d1 m)] 22) = W := ⟨_, rfl⟩
    have q0 : Blk W w.heap.size 23 #[I d0, I d1, I d2] := hW ▸ ((Blk.new w 23 #[I d0, I d1, I d2]).later hB).alloc _
    have q1 : Blk W w1.heap.size 22 #[I (cx d0 m), I (cy d0 d1 m), I (cz d0 d1 m)] := hW ▸ Blk.new w1 _ _
    have hz : w.heap.size < w1.heap.size := by have := hB.size; simp at this; omega
    have hBW : Below w.heap.size w W := hW ▸ (((Below.refl _ w).alloc (Nat.le_refl _) _).trans (hB.mono (by simp))).alloc (by omega) _
    rw [hW]
    clear hW hB
    have hmx : Tryz.prog.follows .mixedOrders = true := by kernel_rfl
    have e0 := Ext.cell q0 0
    have e1 := Ext.cell q1 0
    simp at e0 e1
    refine wp_region_tail 15 hmx (by kernel_rfl) ?_
    simp only [List.take_succ_cons, List.take_zero, List.drop_succ_cons, List.drop_zero]
    repeat (go_big_quiet_step (exact calls_ext_same (around_calls _ (by omega) (by omega) (by omega) (by omega))))
    refine wpQuiet_nil ?_
    intro x
    have r0 := q0.later x.le
    have r1 := q1.later x.le
    have c1 := r1.cell 0
    have f1 := r1.frozen 0
    simp at c1
    gi_wp2
    rw [HT.out]
    have r0' := r0.other (B' := w1.heap.size) 0 (.int .i64 ((cx d0 m + by_) % d0)) (by omega)
    have r1' := r1.set 0 (.int .i64 ((cx d0 m + by_) % d0))
    have hBX := (below_ext hBW x).setCell (p := ⟨w1.heap.size, 0, none⟩) (by simp; omega) (.int .i64 ((cx d0 m + by_) % d0))
    generalize x.wd.setCell ⟨w1.heap.size, 0, none⟩ (.int .i64 ((cx d0 m + by_) % d0)) = W5 at *
    clear e0 e1 c1 f1 r0 r1 q0 q1 hBW
    have c0 := r0'.cell 0
    have c1 := r0'.cell 1
    have c2 := r0'.cell 2
    have k0 := r1'.cell 0
    have k1 := r1'.cell 1
    have k2 := r1'.cell 2
    simp at c0 c1 c2 k0 k1 k2
    go_wp2_with fail
    refine (at_yes _ hm hon.1).mono ?_
    rintro e w6 ⟨rfl, hB6⟩
    go_wp2
    go_ret2
    exact ⟨rfl, hBX.trans (hB6.mono hBX.size)⟩
  · simp only [axI, onD]
    have hb : belowB 1 3 = true := by simp [belowB]
    obtain ⟨ht1, ht2, ht3⟩ := tmod_bd by_ d1 (by omega)
    have HT : Hid ((cy d0 d1 m + by_.tmod d1) % d1 = (cy d0 d1 m + by_) % d1) := ht3 _
    clear ht3
    go_enter Tryz.func198, Tryz.ntmps198
    go_wp2_with fail
    refine (of_yes _ hm HN.out).mono ?_
    rintro x w1 ⟨rfl, hB⟩
    go_wp2_with fail
    refine (below_calls _ _ _).mono ?_
    rintro x w2 ⟨rfl, rfl⟩
    go_wp2_with fail
    obtain ⟨W, hW⟩ : ∃ W, w1.alloc (.cells #[I (cx d0 m), I (cy d0 d1 m), I (cz d0 d1 m)] 22) = W := ⟨_, rfl⟩
    have q0 : Blk W w.heap.size 23 #[I d0, I d1, I d2] := hW ▸ ((Blk.new w 23 #[I d0, I d1, I d2]).later hB).alloc _
    have q1 : Blk W w1.heap.size 22 #[I (cx d0 m), I (cy d0 d1 m), I (cz d0 d1 m)] := hW ▸ Blk.new w1 _ _
    have hz : w.heap.size < w1.heap.size := by have := hB.size; simp at this; omega
    have hBW : Below w.heap.size w W := hW ▸ (((Below.refl _ w).alloc (Nat.le_refl _) _).trans (hB.mono (by simp))).alloc (by omega) _
    rw [hW]
    clear hW hB
    have hmx : Tryz.prog.follows .mixedOrders = true := by kernel_rfl
    have e0 := Ext.cell q0 1
    have e1 := Ext.cell q1 1
    simp at e0 e1
    refine wp_region_tail 15 hmx (by kernel_rfl) ?_
    simp only [List.take_succ_cons, List.take_zero, List.drop_succ_cons, List.drop_zero]
    repeat (go_big_quiet_step (exact calls_ext_same (around_calls _ (by omega) (by omega) (by omega) (by omega))))
    refine wpQuiet_nil ?_
    intro x
    have r0 := q0.later x.le
    have r1 := q1.later x.le
    have c1 := r1.cell 1
    have f1 := r1.frozen 1
    simp at c1
    gi_wp2
    rw [HT.out]
    have r0' := r0.other (B' := w1.heap.size) 1 (.int .i64 ((cy d0 d1 m + by_) % d1)) (by omega)
    have r1' := r1.set 1 (.int .i64 ((cy d0 d1 m + by_) % d1))
    have hBX := (below_ext hBW x).setCell (p := ⟨w1.heap.size, 1, none⟩) (by simp; omega) (.int .i64 ((cy d0 d1 m + by_) % d1))
    generalize x.wd.setCell ⟨w1.heap.size, 1, none⟩ (.int .i64 ((cy d0 d1 m + by_) % d1)) = W5 at *
    clear e0 e1 c1 f1 r0 r1 q0 q1 hBW
    have c0 := r0'.cell 0
    have c1 := r0'.cell 1
    have c2 := r0'.cell 2
    have k0 := r1'.cell 0
    have k1 := r1'.cell 1
    have k2 := r1'.cell 2
    simp at c0 c1 c2 k0 k1 k2
    go_wp2_with fail
    refine (at_yes _ hm hon.2.1).mono ?_
    rintro e w6 ⟨rfl, hB6⟩
    go_wp2
    go_ret2
    exact ⟨rfl, hBX.trans (hB6.mono hBX.size)⟩
  · simp only [axI, onD]
    have hb : belowB 2 3 = true := by simp [belowB]
    obtain ⟨ht1, ht2, ht3⟩ := tmod_bd by_ d2 (by omega)
    have HT : Hid ((cz d0 d1 m + by_.tmod d2) % d2 = (cz d0 d1 m + by_) % d2) := ht3 _
    clear ht3
    go_enter Tryz.func198, Tryz.ntmps198
    go_wp2_with fail
    refine (of_yes _ hm HN.out).mono ?_
    rintro x w1 ⟨rfl, hB⟩
    go_wp2_with fail
    refine (below_calls _ _ _).mono ?_
    rintro x w2 ⟨rfl, rfl⟩
    go_wp2_with fail
    obtain ⟨W, hW⟩ : ∃ W, w1.alloc (.cells #[I (cx d0 m), I (cy d0 d1 m), I (cz d0 d1 m)] 22) = W := ⟨_, rfl⟩
    have q0 : Blk W w.heap.size 23 #[I d0, I d1, I d2] := hW ▸ ((Blk.new w 23 #[I d0, I d1, I d2]).later hB).alloc _
    have q1 : Blk W w1.heap.size 22 #[I (cx d0 m), I (cy d0 d1 m), I (cz d0 d1 m)] := hW ▸ Blk.new w1 _ _
    have hz : w.heap.size < w1.heap.size := by have := hB.size; simp at this; omega
    have hBW : Below w.heap.size w W := hW ▸ (((Below.refl _ w).alloc (Nat.le_refl _) _).trans (hB.mono (by simp))).alloc (by omega) _
    rw [hW]
    clear hW hB
    have hmx : Tryz.prog.follows .mixedOrders = true := by kernel_rfl
    have e0 := Ext.cell q0 2
    have e1 := Ext.cell q1 2
    simp at e0 e1
    refine wp_region_tail 15 hmx (by kernel_rfl) ?_
    simp only [List.take_succ_cons, List.take_zero, List.drop_succ_cons, List.drop_zero]
    repeat (go_big_quiet_step (exact calls_ext_same (around_calls _ (by omega) (by omega) (by omega) (by omega))))
    refine wpQuiet_nil ?_
    intro x
    have r0 := q0.later x.le
    have r1 := q1.later x.le
    have c1 := r1.cell 2
    have f1 := r1.frozen 2
    simp at c1
    gi_wp2
    rw [HT.out]
    have r0' := r0.other (B' := w1.heap.size) 2 (.int .i64 ((cz d0 d1 m + by_) % d2)) (by omega)
    have r1' := r1.set 2 (.int .i64 ((cz d0 d1 m + by_) % d2))
    have hBX := (below_ext hBW x).setCell (p := ⟨w1.heap.size, 2, none⟩) (by simp; omega) (.int .i64 ((cz d0 d1 m + by_) % d2))
    generalize x.wd.setCell ⟨w1.heap.size, 2, none⟩ (.int .i64 ((cz d0 d1 m + by_) % d2)) = W5 at *
    clear e0 e1 c1 f1 r0 r1 q0 q1 hBW
    have c0 := r0'.cell 0
    have c1 := r0'.cell 1
    have c2 := r0'.cell 2
    have k0 := r1'.cell 0
    have k1 := r1'.cell 1
    have k2 := r1'.cell 2
    simp at c0 c1 c2 k0 k1 k2
    go_wp2_with fail
    refine (at_yes _ hm hon.2.2).mono ?_
    rintro e w6 ⟨rfl, hB6⟩
    go_wp2
    go_ret2
    exact ⟨rfl, hBX.trans (hB6.mono hBX.size)⟩

end Go.Proofs.YtldcagjnngkabaaGreatDoor

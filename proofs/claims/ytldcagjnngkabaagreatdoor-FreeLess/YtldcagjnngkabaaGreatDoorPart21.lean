/-
  Plain arithmetic of places: how many midplanes a box has, and how many cables a place takes. No program is named here.
-/
import Derived.Test.YtldcagjnngkabaaGreatDoorPart19
import Derived.Test.YtldcagjnngkabaaGreatDoorPart20
import Derived.Test.YtldcagjnngkabaaGreatDoorPart18
namespace Go.Proofs.YtldcagjnngkabaaGreatDoor
open Go.RowKit

theorem flatP_len {α β : Type} {f : α → List β} {c : Nat} : ∀ {l : List α}, (∀ a ∈ l, (f a).length = c) → (l.flatMap f).length = l.length * c
  | [], _ => by simp
  | a :: l, h => by
    rw [List.flatMap_cons, List.length_append, h a (by simp), flatP_len (fun b hb => h b (by simp [hb])), List.length_cons, Nat.add_mul, Nat.one_mul, Nat.add_comm]

theorem coords_count {r b s : Int} (hr : r ≤ 16) (hb : 0 ≤ b ∧ b < r) (hs : 0 ≤ s ∧ s ≤ r) : (coordsS r b s).length = s.toNat := by
  obtain ⟨R, rfl⟩ := Int.eq_ofNat_of_zero_le (show 0 ≤ r by omega)
  obtain ⟨B, rfl⟩ := Int.eq_ofNat_of_zero_le hb.1
  obtain ⟨S, rfl⟩ := Int.eq_ofNat_of_zero_le hs.1
  unfold coordsS coordsTo
  rw [List.length_map, Int.toNat_natCast, Int.toNat_natCast]
  exact side_count R (by omega) B (by omega) S (by omega)

/-- A side that may be, or has nothing. -/
def sideOk (r b s : Int) : Prop := (0 ≤ b ∧ b < r) ∧ (0 ≤ s ∧ s ≤ r)
theorem nodes_count {d0 d1 d2 : Int} {b : Bx} (h : mayD d0 d1 d2) (hs : ∀ k, sideOk (dimAt d0 d1 d2 k) (bAt b k) (sAt b k)) : ((nodesB d0 d1 d2 b).length : Int) = b.a * b.b * b.c := by
  have h' := h
  obtain ⟨⟨_, u0⟩, ⟨_, u1⟩, _, u2⟩ := h'
  have s0 := hs 0
  have s1 := hs 1
  have s2 := hs 2
  have c0 := coords_count (r := d0) (b := b.x) (s := b.a) u0 s0.1 s0.2
  have c1 := coords_count (r := d1) (b := b.y) (s := b.b) u1 s1.1 s1.2
  have c2 := coords_count (r := d2) (b := b.z) (s := b.c) u2 s2.1 s2.2
  rw [← nodesB_flat h, flatP_len (c := (coordsS d1 b.y b.b).length * (coordsS d0 b.x b.a).length) (fun z _ => flatP_len (fun y _ => by rw [List.length_map])), c0, c1, c2]
  have e0 : (b.a.toNat : Int) = b.a := Int.toNat_of_nonneg s0.2.1
  have e1 : (b.b.toNat : Int) = b.b := Int.toNat_of_nonneg s1.2.1
  have e2 : (b.c.toNat : Int) = b.c := Int.toNat_of_nonneg s2.2.1
  rw [Int.natCast_mul, Int.natCast_mul, e0, e1, e2, Int.mul_comm b.c, Int.mul_comm b.b]

/-- The box of those midplanes from which the cables go that a place takes along an axis. -/
def boxK (d0 d1 d2 : Int) (b : Bx) (t0 t1 t2 : Bool) (k : Fin 3) : Bx := upB b (runS (dimAt d0 d1 d2 k) (sAt b k) (tK t0 t1 t2 k)) k
/-- A cable is taken. -/
def cabB (d0 d1 d2 : Int) (b : Bx) (t0 t1 t2 : Bool) (n : Int) : Bool :=
  let N := d0 * d1 * d2
  if n < N then hasB d0 d1 d2 (boxK d0 d1 d2 b t0 t1 t2 0) n else if n < 2 * N then hasB d0 d1 d2 (boxK d0 d1 d2 b t0 t1 t2 1) (n - N) else hasB d0 d1 d2 (boxK d0 d1 d2 b t0 t1 t2 2) (n - 2 * N)
theorem cabB_at {d0 d1 d2 o : Int} {b : Bx} {t0 t1 t2 : Bool} (ho : 0 ≤ o ∧ o < d0 * d1 * d2) (k : Fin 3) : cabB d0 d1 d2 b t0 t1 t2 (cabW d0 d1 d2 k o) = hasB d0 d1 d2 (boxK d0 d1 d2 b t0 t1 t2 k) o := by
  rcases fin3 k with rfl | rfl | rfl
  · have e : cabW d0 d1 d2 0 o = o := by unfold cabW; simp only [axI]; omega
    rw [e]
    unfold cabB
    rw [if_pos ho.2]
  · have e : cabW d0 d1 d2 1 o = d0 * d1 * d2 + o := by unfold cabW; simp only [axI]; omega
    rw [e]
    unfold cabB
    rw [if_neg (by omega), if_pos (by omega), show d0 * d1 * d2 + o - d0 * d1 * d2 = o by omega]
  · have e : cabW d0 d1 d2 2 o = 2 * (d0 * d1 * d2) + o := by unfold cabW; simp only [axI]
    rw [e]
    unfold cabB
    rw [if_neg (by omega), if_neg (by omega), show 2 * (d0 * d1 * d2) + o - 2 * (d0 * d1 * d2) = o by omega]

theorem nodesB_filter (d0 d1 d2 : Int) (b : Bx) : (nodesB d0 d1 d2 b).length = ((List.range (d0 * d1 * d2).toNat).filter fun m : Nat => hasB d0 d1 d2 b (m : Int)).length := by
  unfold nodesB nodesTo
  rw [List.length_map]
theorem filter_shift {N a : Nat} {p q : Nat → Bool} (h : ∀ o, o < N → p (a + o) = q o) : (((List.range N).map (a + ·)).filter p).length = ((List.range N).filter q).length := by
  rw [List.filter_map, List.length_map]
  congr 1
  exact List.filter_congr fun o ho => h o (List.mem_range.1 ho)
/-- How many cables a place takes. -/
theorem cab_count {d0 d1 d2 : Int} {b : Bx} {t0 t1 t2 : Bool} (h : mayD d0 d1 d2) :
    ((List.range (3 * (d0 * d1 * d2)).toNat).filter fun n : Nat => cabB d0 d1 d2 b t0 t1 t2 (n : Int)).length =
      (nodesB d0 d1 d2 (boxK d0 d1 d2 b t0 t1 t2 0)).length + (nodesB d0 d1 d2 (boxK d0 d1 d2 b t0 t1 t2 1)).length + (nodesB d0 d1 d2 (boxK d0 d1 d2 b t0 t1 t2 2)).length := by
  have hN := N_bd h
  have key : ∀ (k : Fin 3) (o : Int), 0 ≤ o ∧ o < d0 * d1 * d2 → cabB d0 d1 d2 b t0 t1 t2 (axI k * (d0 * d1 * d2) + o) = hasB d0 d1 d2 (boxK d0 d1 d2 b t0 t1 t2 k) o := fun k o ho => cabB_at ho k
  rw [nodesB_filter, nodesB_filter, nodesB_filter]
  obtain ⟨N, hNN⟩ := Int.eq_ofNat_of_zero_le (show 0 ≤ d0 * d1 * d2 by omega)
  rw [hNN] at key ⊢
  have e3 : (3 * ((N : Nat) : Int)).toNat = N + N + N := by omega
  rw [e3, Int.toNat_natCast, List.range_add, List.range_add, List.filter_append, List.filter_append, List.length_append, List.length_append]
  congr 1
  · congr 1
    · congr 1
      refine List.filter_congr fun o ho => ?_
      have ho := List.mem_range.1 ho
      have := key 0 (o : Int) (by omega)
      simp only [axI] at this
      rw [← this]
      congr 1
      omega
    · refine filter_shift fun o ho => ?_
      have := key 1 (o : Int) (by omega)
      simp only [axI] at this
      rw [← this]
      congr 1
      push_cast
      omega
  · refine filter_shift fun o ho => ?_
    have := key 2 (o : Int) (by omega)
    simp only [axI] at this
    rw [← this]
    congr 1
    push_cast
    omega

end Go.Proofs.YtldcagjnngkabaaGreatDoor

/-
  Plain arithmetic of places: which midplanes a place passes; places whose boxes do not meet. No program is named here.
-/
namespace Go.Proofs.YtldcagjnngkabaaGreatDoor
open Go.RowKit

/-- A place takes the cable from a midplane along an axis. -/
def takes (d0 d1 d2 : Int) (b : Bx) (t0 t1 t2 : Bool) (k : Fin 3) (m : Int) : Bool := hasB d0 d1 d2 (boxK d0 d1 d2 b t0 t1 t2 k) m
/-- It passes a midplane. -/
def passB (d0 d1 d2 : Int) (b : Bx) (t0 t1 t2 : Bool) (m : Int) : Prop :=
  hasB d0 d1 d2 b m = false ∧ ∃ k, 1 < dimAt d0 d1 d2 k ∧ (takes d0 d1 d2 b t0 t1 t2 k m = true ∨ takes d0 d1 d2 b t0 t1 t2 k (onD d0 d1 d2 m k (-1)) = true)
/-- It is a torus along an axis and not as long as the dimension. -/
def opens (d0 d1 d2 : Int) (b : Bx) (t0 t1 t2 : Bool) (k : Fin 3) : Prop := tK t0 t1 t2 k = true ∧ sAt b k < dimAt d0 d1 d2 k

theorem hasS_whole {r b c : Int} (hb : 0 ≤ b ∧ b < r) (hc : 0 ≤ c ∧ c < r) : hasS r b r c = true := by
  have := aft_bd hb hc
  simp only [hasS, decide_eq_true_eq]
  omega

theorem torus_takes {d0 d1 d2 m : Int} {b : Bx} {t0 t1 t2 : Bool} (h : mayD d0 d1 d2) (hb : mayB d0 d1 d2 b) (hm : 0 ≤ m ∧ m < d0 * d1 * d2) {k : Fin 3} (ht : tK t0 t1 t2 k = true) :
    takes d0 d1 d2 b t0 t1 t2 k m = true ↔ ∀ j, j ≠ k → hasS (dimAt d0 d1 d2 j) (bAt b j) (sAt b j) (coK d0 d1 m j) = true := by
  unfold takes boxK
  rw [upB_has, ht]
  have e : runS (dimAt d0 d1 d2 k) (sAt b k) true = dimAt d0 d1 d2 k := by simp [runS]
  rw [e]
  exact ⟨fun h => h.2, fun h' => ⟨hasS_whole (mayB_at hb k).2 (co_bd h hm k), h'⟩⟩
theorem mesh_takes {d0 d1 d2 m : Int} {b : Bx} {t0 t1 t2 : Bool} (h : mayD d0 d1 d2) (hb : mayB d0 d1 d2 b) (hm : 0 ≤ m ∧ m < d0 * d1 * d2) {k : Fin 3} (ht : tK t0 t1 t2 k = false)
    (hu : takes d0 d1 d2 b t0 t1 t2 k m = true) : hasB d0 d1 d2 b m = true ∧ hasB d0 d1 d2 b (onD d0 d1 d2 m k 1) = true := by
  unfold takes boxK at hu
  rw [ht] at hu
  exact mesh_ends h hb hm k hu

theorem on_back {d0 d1 d2 m : Int} (h : mayD d0 d1 d2) (hm : 0 ≤ m ∧ m < d0 * d1 * d2) (k : Fin 3) : onD d0 d1 d2 (onD d0 d1 d2 m k (-1)) k 1 = m := by
  rw [on_on h hm, show (-1 : Int) + 1 = 0 by omega]
  exact on_round h hm k 0 (.inl rfl)

/-- Where each axis along which it is a torus is taken whole, it passes none. -/
theorem pass_none {d0 d1 d2 m : Int} {b : Bx} {t0 t1 t2 : Bool} (h : mayD d0 d1 d2) (hb : mayB d0 d1 d2 b) (hm : 0 ≤ m ∧ m < d0 * d1 * d2) (ho : ∀ k, ¬ opens d0 d1 d2 b t0 t1 t2 k) : ¬ passB d0 d1 d2 b t0 t1 t2 m := by
  rintro ⟨hno, k, _, ht⟩
  have hp := on_node h hm k (-1)
  have key : hasB d0 d1 d2 b m = true := by
    cases hk : tK t0 t1 t2 k
    · rcases ht with ht | ht
      · exact (mesh_takes h hb hm hk ht).1
      · have := (mesh_takes h hb hp hk ht).2
        rwa [on_back h hm k] at this
    · have hs : sAt b k = dimAt d0 d1 d2 k := by
        have h1 := (mayB_at hb k).1.2
        have h2 : ¬ sAt b k < dimAt d0 d1 d2 k := fun hlt => ho k ⟨hk, hlt⟩
        omega
      have hall : ∀ j, j ≠ k → hasS (dimAt d0 d1 d2 j) (bAt b j) (sAt b j) (coK d0 d1 m j) = true := by
        rcases ht with ht | ht
        · exact (torus_takes h hb hm hk).1 ht
        · intro j hj
          have := (torus_takes h hb hp hk).1 ht j hj
          rwa [co_on h hm k (-1) j, if_neg hj] at this
      rw [hasB_iff]
      intro j
      by_cases hj : j = k
      · subst hj
        rw [hs]
        exact hasS_whole (mayB_at hb j).2 (co_bd h hm j)
      · exact hall j hj
  rw [key] at hno
  cases hno

/-- The midplane at which a box begins. -/
def baseN (d0 d1 : Int) (b : Bx) : Int := numD d0 d1 b.x b.y b.z
theorem base_node {d0 d1 d2 : Int} {b : Bx} (h : mayD d0 d1 d2) (hb : mayB d0 d1 d2 b) : (0 ≤ baseN d0 d1 b ∧ baseN d0 d1 b < d0 * d1 * d2) ∧ ∀ k, coK d0 d1 (baseN d0 d1 b) k = bAt b k := by
  obtain ⟨b0, b1, b2⟩ := hb
  obtain ⟨hn, hx, hy, hz⟩ := node_of_in h (p0 := b.x) (p1 := b.y) (p2 := b.z) ⟨b0.2, b1.2, b2.2⟩
  refine ⟨hn, fun k => ?_⟩
  rcases fin3 k with rfl | rfl | rfl
  · exact hx
  · exact hy
  · exact hz
theorem base_has {d0 d1 d2 : Int} {b : Bx} (h : mayD d0 d1 d2) (hb : mayB d0 d1 d2 b) : hasB d0 d1 d2 b (baseN d0 d1 b) = true := by
  rw [hasB_iff]
  intro k
  rw [(base_node h hb).2 k]
  exact hasS_base (mayB_at hb k)

/-- Else it passes one. -/
theorem pass_some {d0 d1 d2 : Int} {b : Bx} {t0 t1 t2 : Bool} (h : mayD d0 d1 d2) (hb : mayB d0 d1 d2 b) {k : Fin 3} (ho : opens d0 d1 d2 b t0 t1 t2 k) : ∃ m, (0 ≤ m ∧ m < d0 * d1 * d2) ∧ passB d0 d1 d2 b t0 t1 t2 m := by
  obtain ⟨ht, hlt⟩ := ho
  obtain ⟨hn, hc⟩ := base_node h hb
  have hm := on_node h hn k (sAt b k)
  have hco := co_on h hn k (sAt b k)
  have hs := (mayB_at hb k).1
  have hbk := (mayB_at hb k).2
  refine ⟨onD d0 d1 d2 (baseN d0 d1 b) k (sAt b k), hm, ?_, k, by omega, .inl ?_⟩
  · cases hh : hasB d0 d1 d2 b (onD d0 d1 d2 (baseN d0 d1 b) k (sAt b k))
    · rfl
    · have := hasB_iff.1 hh k
      rw [hco k, if_pos rfl, hc k, on_rem hbk ⟨by omega, hlt⟩] at this
      unfold hasS at this
      have hx := of_decide_eq_true this
      clear this
      unfold aft at hx
      split at hx <;> split at hx <;> omega
  · rw [torus_takes h hb hm ht]
    intro j hj
    rw [hco j, if_neg hj, hc j]
    exact hasS_base (mayB_at hb j)

/-- Places whose boxes do not meet have, as meshes, no cable in common. -/
theorem mesh_apart {d0 d1 d2 m : Int} {a b : Bx} (h : mayD d0 d1 d2) (ha : mayB d0 d1 d2 a) (hb : mayB d0 d1 d2 b) (hm : 0 ≤ m ∧ m < d0 * d1 * d2) (k : Fin 3)
    (u : takes d0 d1 d2 a false false false k m = true) (v : takes d0 d1 d2 b false false false k m = true) : meetB d0 d1 d2 a b = true := by
  have hk : tK false false false k = false := by rcases fin3 k with rfl | rfl | rfl <;> rfl
  exact (meetB_iff h ha hb).2 ⟨m, hm, (mesh_takes h ha hm hk u).1, (mesh_takes h hb hm hk v).1⟩

end Go.Proofs.YtldcagjnngkabaaGreatDoor

/-
  pos.Step: the midplane some steps on, for every input; nothing that lay before is turned.
-/
namespace Go.Proofs.YtldcagjnngkabaaGreatDoor
open Go.RowKit Go.Shelf

attribute [local go_sem] Oper.semAt_some ext_const

theorem around_calls {k n : Int} (w : World) (hk : -n < k) (hk2 : k ≤ 1000) (h1 : 1 ≤ n) (h2 : n ≤ 16) :
    Calls Tryz.prog 206 #[I k, I n] w fun e w' => e = .returned (I (k % n)) ∧ w' = w := by
  have E : Hid ((k + n) % n = k % n) := Int.add_emod_right k n
  go_enter Tryz.func206, Tryz.ntmps206
  go_wp2
  go_ret
  rw [← E.out]
  exact ⟨rfl, rfl⟩

set_option maxHeartbeats 400000 in
theorem step_err {d0 d1 d2 : Int} (m axis by_ e : Int) (w : World) (he : (e != 0) = true)
    (hc : ∀ w, Calls Tryz.prog 205 #[A3 d0 d1 d2, I m] w fun x W' => x = .returned (.tuple #[A3 0 0 0, I e]) ∧ Below w.heap.size w W') :
    Calls Tryz.prog 198 #[A3 d0 d1 d2, I m, I axis, I by_] w fun x W' => x = .returned (.tuple #[I 0, I e]) ∧ Below w.heap.size w W' := by
  have HH : Hid (∀ w, Calls Tryz.prog 205 #[A3 d0 d1 d2, I m] w fun x W' => x = .returned (.tuple #[A3 0 0 0, I e]) ∧ Below w.heap.size w W') := hc
  clear hc
  go_enter Tryz.func198, Tryz.ntmps198
  go_wp2_with fail
  refine (HH.out _).mono ?_
  rintro x w1 ⟨rfl, hB⟩
  go_wp2
  go_ret2
  exact ⟨rfl, (((Below.refl _ w).alloc (Nat.le_refl _) _).trans (hB.mono (by simp))).alloc (by have := hB.size; simp at this; omega) _⟩

set_option maxHeartbeats 400000 in
theorem step_axis {d0 d1 d2 m axis by_ : Int} (w : World) (hm : mayD d0 d1 d2) (hn : 0 ≤ m ∧ m < d0 * d1 * d2) (ha : ¬ (0 ≤ axis ∧ axis < 3)) :
    Calls Tryz.prog 198 #[A3 d0 d1 d2, I m, I axis, I by_] w fun x W' => x = .returned (.tuple #[I 0, I 2]) ∧ Below w.heap.size w W' := by
  have hb : belowB axis 3 = false := by simp [belowB]; omega
  have HN : Hid (0 ≤ m ∧ m < d0 * d1 * d2) := hn
  clear hn ha
  go_enter Tryz.func198, Tryz.ntmps198
  go_wp2_with fail
  refine (of_yes _ hm HN.out).mono ?_
  rintro x w1 ⟨rfl, hB⟩
  go_wp2_with fail
  refine (below_calls _ _ _).mono ?_
  rintro x w2 ⟨rfl, rfl⟩
  go_wp2
  go_ret2
  exact ⟨rfl, (((Below.refl _ w).alloc (Nat.le_refl _) _).trans (hB.mono (by simp))).alloc (by have := hB.size; simp at this; omega) _⟩


set_option maxRecDepth 100000 in
set_option maxHeartbeats 1000000 in
theorem step_yes {d0 d1 d2 m by_ : Int} (w : World) (hm : mayD d0 d1 d2) (hn : 0 ≤ m ∧ m < d0 * d1 * d2) (k : Fin 3) :
    Calls Tryz.prog 198 #[A3 d0 d1 d2, I m, I (axI k), I by_] w fun x W' => x = .returned (.tuple #[I (onD d0 d1 d2 m k by_), I 0]) ∧ Below w.heap.size w W' := by
  have HN : Hid (0 ≤ m ∧ m < d0 * d1 * d2) := hn
  have hin := inD_of_node hm hn
  have hon := inD_on hm hn by_
  have hd := hm
  unfold inD at hin
  unfold mayD okD at hd
  clear hn
  rcases fin3 k with rfl | rfl | rfl
  · simp only [axI, onD]
    have hb : belowB 0 3 = true := by simp [belowB]
    obtain ⟨ht1, ht2, ht3⟩ := tmod_bd by_ d0 (by omega)
    have HT : Hid ((cx d0 m + by_.tmod d0) % d0 = (cx d0 m + by_) % d0) := ht3 _
    clear ht3
    go_enter Tryz.func198, Tryz.ntmps198
    go_wp2_with fail
    refine (of_yes _ hm HN.out).mono ?_
    rintro x w1 ⟨rfl, hB⟩
    go_wp2_with fail
    refine (below_calls _ _ _).mono ?_
    rintro x w2 ⟨rfl, rfl⟩
    go_wp2_with fail
    obtain ⟨W, hW⟩ : ∃ W, w1.alloc (.cells #[I (cx d0 m), I (cy d0 d1 m), I (cz d0 d1 m)] 22) = W := ⟨_, rfl⟩
    have q0 : Blk W w.heap.size 23 #[I d0, I d1, I d2] := hW ▸ ((Blk.new w 23 #[I d0, I d1, I d2]).later hB).alloc _
    have q1 : Blk W w1.heap.size 22 #[I (cx d0 m), I (cy d0 d1 m), I (cz d0 d1 m)] := hW ▸ Blk.new w1 _ _
    have hz : w.heap.size < w1.heap.size := by have := hB.size; simp at this; omega
    have hBW : Below w.heap.size w W := hW ▸ (((Below.refl _ w).alloc (Nat.le_refl _) _).trans (hB.mono (by simp))).alloc (by omega) _
    rw [hW]
    clear hW hB
    have hmx : Tryz.prog.follows .mixedOrders = true := by kernel_rfl
    have e0 := Ext.cell q0 0
    have e1 := Ext.cell q1 0
    simp at e0 e1
    refine wp_region_tail 15 hmx (by kernel_rfl) ?_
    simp only [List.take_succ_cons, List.take_zero, List.drop_succ_cons, List.drop_zero]
    repeat (go_big_quiet_step (exact calls_ext_same (around_calls _ (by omega) (by omega) (by omega) (by omega))))
    refine wpQuiet_nil ?_
    intro x
    have r0 := q0.later x.le
    have r1 := q1.later x.le
    have c1 := r1.cell 0
    have f1 := r1.frozen 0
    simp at c1
    gi_wp2
    rw [HT.out]
    have r0' := r0.other (B' := w1.heap.size) 0 (.int .i64 ((cx d0 m + by_) % d0)) (by omega)
    have r1' := r1.set 0 (.int .i64 ((cx d0 m + by_) % d0))
    have hBX := (below_ext hBW x).setCell (p := ⟨w1.heap.size, 0, none⟩) (by simp; omega) (.int .i64 ((cx d0 m + by_) % d0))
    generalize x.wd.setCell ⟨w1.heap.size, 0, none⟩ (.int .i64 ((cx d0 m + by_) % d0)) = W5 at *
    clear e0 e1 c1 f1 r0 r1 q0 q1 hBW
    have c0 := r0'.cell 0
    have c1 := r0'.cell 1
    have c2 := r0'.cell 2
    have k0 := r1'.cell 0
    have k1 := r1'.cell 1
    have k2 := r1'.cell 2
    simp at c0 c1 c2 k0 k1 k2
    go_wp2_with fail
    refine (at_yes _ hm hon.1).mono ?_
    rintro e w6 ⟨rfl, hB6⟩
    go_wp2
    go_ret2
    exact ⟨rfl, hBX.trans (hB6.mono hBX.size)⟩
  · simp only [axI, onD]
    have hb : belowB 1 3 = true := by simp [belowB]
    obtain ⟨ht1, ht2, ht3⟩ := tmod_bd by_ d1 (by omega)
    have HT : Hid ((cy d0 d1 m + by_.tmod d1) % d1 = (cy d0 d1 m + by_) % d1) := ht3 _
    clear ht3
    go_enter Tryz.func198, Tryz.ntmps198
    go_wp2_with fail
    refine (of_yes _ hm HN.out).mono ?_
    rintro x w1 ⟨rfl, hB⟩
    go_wp2_with fail
    refine (below_calls _ _ _).mono ?_
    rintro x w2 ⟨rfl, rfl⟩
    go_wp2_with fail
    obtain ⟨W, hW⟩ : ∃ W, w1.alloc (.cells #[I (cx d0 m), I (cy d0 d1 m), I (cz d0 d1 m)] 22) = W := ⟨_, rfl⟩
    have q0 : Blk W w.heap.size 23 #[I d0, I d1, I d2] := hW ▸ ((Blk.new w 23 #[I d0, I d1, I d2]).later hB).alloc _
    have q1 : Blk W w1.heap.size 22 #[I (cx d0 m), I (cy d0 d1 m), I (cz d0 d1 m)] := hW ▸ Blk.new w1 _ _
    have hz : w.heap.size < w1.heap.size := by have := hB.size; simp at this; omega
    have hBW : Below w.heap.size w W := hW ▸ (((Below.refl _ w).alloc (Nat.le_refl _) _).trans (hB.mono (by simp))).alloc (by omega) _
    rw [hW]
    clear hW hB
    have hmx : Tryz.prog.follows .mixedOrders = true := by kernel_rfl
    have e0 := Ext.cell q0 1
    have e1 := Ext.cell q1 1
    simp at e0 e1
    refine wp_region_tail 15 hmx (by kernel_rfl) ?_
    simp only [List.take_succ_cons, List.take_zero, List.drop_succ_cons, List.drop_zero]
    repeat (go_big_quiet_step (exact calls_ext_same (around_calls _ (by omega) (by omega) (by omega) (by omega))))
    refine wpQuiet_nil ?_
    intro x
    have r0 := q0.later x.le
    have r1 := q1.later x.le
    have c1 := r1.cell 1
    have f1 := r1.frozen 1
    simp at c1
    gi_wp2
    rw [HT.out]
    have r0' := r0.other (B' := w1.heap.size) 1 (.int .i64 ((cy d0 d1 m + by_) % d1)) (by omega)
    have r1' := r1.set 1 (.int .i64 ((cy d0 d1 m + by_) % d1))
    have hBX := (below_ext hBW x).setCell (p := ⟨w1.heap.size, 1, none⟩) (by simp; omega) (.int .i64 ((cy d0 d1 m + by_) % d1))
    generalize x.wd.setCell ⟨w1.heap.size, 1, none⟩ (.int .i64 ((cy d0 d1 m + by_) % d1)) = W5 at *
    clear e0 e1 c1 f1 r0 r1 q0 q1 hBW
    have c0 := r0'.cell 0
    have c1 := r0'.cell 1
    have c2 := r0'.cell 2
    have k0 := r1'.cell 0
    have k1 := r1'.cell 1
    have k2 := r1'.cell 2
    simp at c0 c1 c2 k0 k1 k2
    go_wp2_with fail
    refine (at_yes _ hm hon.2.1).mono ?_
    rintro e w6 ⟨rfl, hB6⟩
    go_wp2
    go_ret2
    exact ⟨rfl, hBX.trans (hB6.mono hBX.size)⟩
  · simp only [axI, onD]
    have hb : belowB 2 3 = true := by simp [belowB]
    obtain ⟨ht1, ht2, ht3⟩ := tmod_bd by_ d2 (by omega)
    have HT : Hid ((cz d0 d1 m + by_.tmod d2) % d2 = (cz d0 d1 m + by_) % d2) := ht3 _
    clear ht3
    go_enter Tryz.func198, Tryz.ntmps198
    go_wp2_with fail
    refine (of_yes _ hm HN.out).mono ?_
    rintro x w1 ⟨rfl, hB⟩
    go_wp2_with fail
    refine (below_calls _ _ _).mono ?_
    rintro x w2 ⟨rfl, rfl⟩
    go_wp2_with fail
    obtain ⟨W, hW⟩ : ∃ W, w1.alloc (.cells #[I (cx d0 m), I (cy d0 d1 m), I (cz d0 d1 m)] 22) = W := ⟨_, rfl⟩
    have q0 : Blk W w.heap.size 23 #[I d0, I d1, I d2] := hW ▸ ((Blk.new w 23 #[I d0, I d1, I d2]).later hB).alloc _
    have q1 : Blk W w1.heap.size 22 #[I (cx d0 m), I (cy d0 d1 m), I (cz d0 d1 m)] := hW ▸ Blk.new w1 _ _
    have hz : w.heap.size < w1.heap.size := by have := hB.size; simp at this; omega
    have hBW : Below w.heap.size w W := hW ▸ (((Below.refl _ w).alloc (Nat.le_refl _) _).trans (hB.mono (by simp))).alloc (by omega) _
    rw [hW]
    clear hW hB
    have hmx : Tryz.prog.follows .mixedOrders = true := by kernel_rfl
    have e0 := Ext.cell q0 2
    have e1 := Ext.cell q1 2
    simp at e0 e1
    refine wp_region_tail 15 hmx (by kernel_rfl) ?_
    simp only [List.take_succ_cons, List.take_zero, List.drop_succ_cons, List.drop_zero]
    repeat (go_big_quiet_step (exact calls_ext_same (around_calls _ (by omega) (by omega) (by omega) (by omega))))
    refine wpQuiet_nil ?_
    intro x
    have r0 := q0.later x.le
    have r1 := q1.later x.le
    have c1 := r1.cell 2
    have f1 := r1.frozen 2
    simp at c1
    gi_wp2
    rw [HT.out]
    have r0' := r0.other (B' := w1.heap.size) 2 (.int .i64 ((cz d0 d1 m + by_) % d2)) (by omega)
    have r1' := r1.set 2 (.int .i64 ((cz d0 d1 m + by_) % d2))
    have hBX := (below_ext hBW x).setCell (p := ⟨w1.heap.size, 2, none⟩) (by simp; omega) (.int .i64 ((cz d0 d1 m + by_) % d2))
    generalize x.wd.setCell ⟨w1.heap.size, 2, none⟩ (.int .i64 ((cz d0 d1 m + by_) % d2)) = W5 at *
    clear e0 e1 c1 f1 r0 r1 q0 q1 hBW
    have c0 := r0'.cell 0
    have c1 := r0'.cell 1
    have c2 := r0'.cell 2
    have k0 := r1'.cell 0
    have k1 := r1'.cell 1
    have k2 := r1'.cell 2
    simp at c0 c1 c2 k0 k1 k2
    go_wp2_with fail
    refine (at_yes _ hm hon.2.2).mono ?_
    rintro e w6 ⟨rfl, hB6⟩
    go_wp2
    go_ret2
    exact ⟨rfl, hBX.trans (hB6.mono hBX.size)⟩

end Go.Proofs.YtldcagjnngkabaaGreatDoor

/-
  wire.checkLine, wire.wired, wire.Many, wire.Link, wire.Ends: what each call answers, for every input; nothing that lay before is turned.
-/
namespace Go.Proofs.YtldcagjnngkabaaGreatDoor
open Go.RowKit Go.Shelf

attribute [local go_sem] Oper.semAt_some ext_const

/-- An axis that may be, and a midplane. -/
def lineOk (d0 d1 d2 axis m : Int) : Prop := (0 ≤ m ∧ m < d0 * d1 * d2) ∧ (0 ≤ axis ∧ axis < 3)
/-- What is refused, and with which error. -/
def Refused (d0 d1 d2 axis m e : Int) : Prop := (¬ mayD d0 d1 d2 ∧ e = 8) ∨ (mayD d0 d1 d2 ∧ ¬ lineOk d0 d1 d2 axis m ∧ e = 2)

theorem Refused.ne {d0 d1 d2 axis m e : Int} (h : Refused d0 d1 d2 axis m e) : (e != 0) = true := by
  rcases h with ⟨_, rfl⟩ | ⟨_, _, rfl⟩ <;> decide
theorem refused_or (d0 d1 d2 axis m : Int) : (∃ e, Refused d0 d1 d2 axis m e) ∨ (mayD d0 d1 d2 ∧ (0 ≤ m ∧ m < d0 * d1 * d2) ∧ ∃ k : Fin 3, axis = axI k) := by
  by_cases h : mayD d0 d1 d2
  · by_cases h' : lineOk d0 d1 d2 axis m
    · refine .inr ⟨h, h'.1, ?_⟩
      have := h'.2
      have : axis = 0 ∨ axis = 1 ∨ axis = 2 := by omega
      rcases this with rfl | rfl | rfl
      · exact ⟨0, rfl⟩
      · exact ⟨1, rfl⟩
      · exact ⟨2, rfl⟩
    · exact .inl ⟨2, .inr ⟨h, h', rfl⟩⟩
  · exact .inl ⟨8, .inl ⟨h, rfl⟩⟩

theorem step_ref {d0 d1 d2 axis m e : Int} (by_ : Int) (w : World) (h : Refused d0 d1 d2 axis m e) :
    Calls Tryz.prog 198 #[A3 d0 d1 d2, I m, I axis, I by_] w fun x W' => x = .returned (.tuple #[I 0, I e]) ∧ Below w.heap.size w W' := by
  rcases h with ⟨h, rfl⟩ | ⟨h, h', rfl⟩
  · exact step_err m axis by_ 8 w (by decide) (fun w => of_bad m w h)
  · by_cases hn : 0 ≤ m ∧ m < d0 * d1 * d2
    · exact step_axis w h hn (fun ha => h' ⟨hn, ha⟩)
    · exact step_err m axis by_ 2 w (by decide) (fun w => of_no w h hn)

set_option maxHeartbeats 400000 in
theorem checkl_of {d0 d1 d2 axis m : Int} (r e : Int) (w : World) (hc : ∀ w, Calls Tryz.prog 198 #[A3 d0 d1 d2, I m, I axis, I 0] w fun x W' => x = .returned (.tuple #[I r, I e]) ∧ Below w.heap.size w W') :
    Calls Tryz.prog 181 #[A3 d0 d1 d2, I axis, I m] w fun x W' => x = .returned (I e) ∧ Below w.heap.size w W' := by
  have HH : Hid (∀ w, Calls Tryz.prog 198 #[A3 d0 d1 d2, I m, I axis, I 0] w fun x W' => x = .returned (.tuple #[I r, I e]) ∧ Below w.heap.size w W') := hc
  clear hc
  go_enter Tryz.func181, Tryz.ntmps181
  go_wp2_with fail
  refine (HH.out _).mono ?_
  rintro x w1 ⟨rfl, hB⟩
  go_wp2
  go_ret
  exact ⟨rfl, then_below ((Below.refl _ w).alloc (Nat.le_refl _) _) hB⟩

theorem checkl_ref {d0 d1 d2 axis m e : Int} (w : World) (h : Refused d0 d1 d2 axis m e) :
    Calls Tryz.prog 181 #[A3 d0 d1 d2, I axis, I m] w fun x W' => x = .returned (I e) ∧ Below w.heap.size w W' :=
  checkl_of 0 e w fun w => step_ref 0 w h
theorem checkl_yes {d0 d1 d2 axis m : Int} (w : World) (hm : mayD d0 d1 d2) (hn : 0 ≤ m ∧ m < d0 * d1 * d2) {k : Fin 3} (hk : axis = axI k) :
    Calls Tryz.prog 181 #[A3 d0 d1 d2, I axis, I m] w fun x W' => x = .returned (I 0) ∧ Below w.heap.size w W' := by
  subst hk
  exact checkl_of _ 0 w fun w => step_yes w hm hn k

set_option maxHeartbeats 400000 in
theorem wired_calls {d0 d1 d2 axis : Int} (w : World) {k : Fin 3} (hk : axis = axI k) {b : Bool} (hb : b = decide (1 < dimAt d0 d1 d2 k)) :
    Calls Tryz.prog 207 #[A3 d0 d1 d2, I axis] w fun x W' => x = .returned (.bool b) ∧ Below w.heap.size w W' := by
  have HB : Hid (b = decide (1 < dimAt d0 d1 d2 k)) := hb
  clear hb
  subst hk
  rcases fin3 k with rfl | rfl | rfl
  all_goals
    simp only [axI, dimAt] at HB ⊢
    go_enter Tryz.func207, Tryz.ntmps207
    go_wp2
    go_ret
    exact ⟨by rw [HB.out]; rfl, (Below.refl _ w).alloc (Nat.le_refl _) _⟩

set_option maxHeartbeats 400000 in
theorem wmany_no {d0 d1 d2 : Int} (w : World) (hm : ¬ mayD d0 d1 d2) :
    Calls Tryz.prog 129 #[A3 d0 d1 d2] w fun e W' => e = .returned (.tuple #[I 0, I 8]) ∧ Below w.heap.size w W' := by
  go_enter Tryz.func129, Tryz.ntmps129
  go_wp2_with fail
  refine (many_no _ hm).mono ?_
  rintro e w1 ⟨rfl, hB⟩
  go_wp2
  go_ret2
  exact ⟨rfl, then_below ((Below.refl _ w).alloc (Nat.le_refl _) _) hB⟩
set_option maxHeartbeats 400000 in
theorem wmany_yes {d0 d1 d2 : Int} (w : World) (hm : mayD d0 d1 d2) :
    Calls Tryz.prog 129 #[A3 d0 d1 d2] w fun e W' => e = .returned (.tuple #[I (3 * (d0 * d1 * d2)), I 0]) ∧ Below w.heap.size w W' := by
  have hN := N_bd hm
  have HM : Hid (∀ w, Calls Tryz.prog 48 #[A3 d0 d1 d2] w fun e W' => e = .returned (.tuple #[I (d0 * d1 * d2), I 0]) ∧ Below w.heap.size w W') := fun w => many_yes w hm
  generalize d0 * d1 * d2 = N at *
  go_enter Tryz.func129, Tryz.ntmps129
  go_wp2_with fail
  refine (HM.out _).mono ?_
  rintro e w1 ⟨rfl, hB⟩
  go_wp2
  go_ret2
  exact ⟨rfl, then_below ((Below.refl _ w).alloc (Nat.le_refl _) _) hB⟩

set_option maxHeartbeats 400000 in
theorem link_ref {d0 d1 d2 axis m e : Int} (w : World) (h : Refused d0 d1 d2 axis m e) :
    Calls Tryz.prog 200 #[A3 d0 d1 d2, I axis, I m] w fun x W' => x = .returned (.tuple #[I 0, I e]) ∧ Below w.heap.size w W' := by
  have he := h.ne
  have H : Hid (Refused d0 d1 d2 axis m e) := h
  clear h
  go_enter Tryz.func200, Tryz.ntmps200
  go_wp2_with fail
  refine (checkl_ref _ H.out).mono ?_
  rintro x w1 ⟨rfl, hB⟩
  go_wp2
  go_ret2
  exact ⟨rfl, then_below ((Below.refl _ w).alloc (Nat.le_refl _) _) hB⟩

set_option maxHeartbeats 400000 in
theorem link_none {d0 d1 d2 axis m : Int} (w : World) (hm : mayD d0 d1 d2) (hn : 0 ≤ m ∧ m < d0 * d1 * d2) {k : Fin 3} (hk : axis = axI k) (h1 : ¬ 1 < dimAt d0 d1 d2 k) :
    Calls Tryz.prog 200 #[A3 d0 d1 d2, I axis, I m] w fun x W' => x = .returned (.tuple #[I 0, I 6]) ∧ Below w.heap.size w W' := by
  have HN : Hid (0 ≤ m ∧ m < d0 * d1 * d2) := hn
  have HK : Hid (axis = axI k) := hk
  have HW : Hid (false = decide (1 < dimAt d0 d1 d2 k)) := (decide_eq_false h1).symm
  clear hn hk h1
  go_enter Tryz.func200, Tryz.ntmps200
  go_wp2_with fail
  refine (checkl_yes _ hm HN.out HK.out).mono ?_
  rintro x w1 ⟨rfl, hB⟩
  have g0 := (Blk.new w 23 #[I d0, I d1, I d2]).later hB
  have c0 := g0.cell 0
  have c1 := g0.cell 1
  have c2 := g0.cell 2
  simp at c0 c1 c2
  go_wp2_with fail
  refine (wired_calls _ HK.out HW.out).mono ?_
  rintro x w2 ⟨rfl, hB2⟩
  go_wp2
  go_ret2
  exact ⟨rfl, then_below (then_below ((Below.refl _ w).alloc (Nat.le_refl _) _) hB) hB2⟩

theorem cab_wrap {d0 d1 d2 m : Int} (hm : mayD d0 d1 d2) (hn : 0 ≤ m ∧ m < d0 * d1 * d2) (k : Fin 3) : wrap64 (wrap64 (axI k * (d0 * d1 * d2)) + m) = cabW d0 d1 d2 k m := by
  have hN := N_bd hm
  unfold cabW
  generalize d0 * d1 * d2 = N at *
  match k with
  | 0 => simp only [axI]; unfold wrap64; omega
  | 1 => simp only [axI]; unfold wrap64; omega
  | 2 => simp only [axI]; unfold wrap64; omega

set_option maxHeartbeats 400000 in
theorem link_yes {d0 d1 d2 axis m : Int} (w : World) (hm : mayD d0 d1 d2) (hn : 0 ≤ m ∧ m < d0 * d1 * d2) {k : Fin 3} (hk : axis = axI k) (h1 : 1 < dimAt d0 d1 d2 k) :
    Calls Tryz.prog 200 #[A3 d0 d1 d2, I axis, I m] w fun x W' => x = .returned (.tuple #[I (cabW d0 d1 d2 k m), I 0]) ∧ Below w.heap.size w W' := by
  have hcw := cab_wrap hm hn k
  rw [← hk] at hcw
  have HN : Hid (0 ≤ m ∧ m < d0 * d1 * d2) := hn
  have HM : Hid (∀ w, Calls Tryz.prog 48 #[A3 d0 d1 d2] w fun e W' => e = .returned (.tuple #[I (d0 * d1 * d2), I 0]) ∧ Below w.heap.size w W') := fun w => many_yes w hm
  have HL : Hid (∀ w, Calls Tryz.prog 181 #[A3 d0 d1 d2, I axis, I m] w fun x W' => x = .returned (I 0) ∧ Below w.heap.size w W') := fun w => checkl_yes w hm hn hk
  have HW : Hid (∀ w, Calls Tryz.prog 207 #[A3 d0 d1 d2, I axis] w fun x W' => x = .returned (.bool true) ∧ Below w.heap.size w W') := fun w => wired_calls w hk (decide_eq_true h1).symm
  generalize cabW d0 d1 d2 k m = c at *
  generalize d0 * d1 * d2 = N at *
  have HC : Hid (wrap64 (wrap64 (axis * N) + m) = c) := hcw
  clear hcw hn hk h1 HN
  go_enter Tryz.func200, Tryz.ntmps200
  go_wp2_with fail
  refine (HL.out _).mono ?_
  rintro x w1 ⟨rfl, hB⟩
  have g0 := (Blk.new w 23 #[I d0, I d1, I d2]).later hB
  have c0 := g0.cell 0
  have c1 := g0.cell 1
  have c2 := g0.cell 2
  simp at c0 c1 c2
  go_wp2_with fail
  refine (HW.out _).mono ?_
  rintro x w2 ⟨rfl, hB2⟩
  have g1 := g0.later hB2
  have k0 := g1.cell 0
  have k1 := g1.cell 1
  have k2 := g1.cell 2
  simp at k0 k1 k2
  go_wp2_with fail
  refine (HM.out _).mono ?_
  rintro x w3 ⟨rfl, hB3⟩
  go_wp2
  go_ret2
  exact ⟨by rw [HC.out]; rfl, then_below (then_below (then_below ((Below.refl _ w).alloc (Nat.le_refl _) _) hB) hB2) hB3⟩

end Go.Proofs.YtldcagjnngkabaaGreatDoor

/-
  wire.Ends: what it answers, for every input; nothing that lay before is turned.
-/
namespace Go.Proofs.YtldcagjnngkabaaGreatDoor
open Go.RowKit Go.Shelf

attribute [local go_sem] Oper.semAt_some ext_const

theorem results_tmp4 {fn : Func} {t u v x : Tmp} (h : fn.results = #[.tmp t, .tmp u, .tmp v, .tmp x]) (tmps : Array Value) (P : Program) (w : World) :
    (results fn tmps).run P w = .ok (.tuple #[tmps.getD t undef, tmps.getD u undef, tmps.getD v undef, tmps.getD x undef]) w := by
  simp [results, h]

/-- Each number of a cable is an axis and a midplane. -/
theorem cab_of {d0 d1 d2 link : Int} (h : mayD d0 d1 d2) (hl : 0 ≤ link ∧ link < 3 * (d0 * d1 * d2)) : ∃ (k : Fin 3) (m : Int), (0 ≤ m ∧ m < d0 * d1 * d2) ∧ link = cabW d0 d1 d2 k m := by
  have hN := N_bd h
  unfold cabW
  generalize d0 * d1 * d2 = N at *
  by_cases h1 : link < N
  · exact ⟨0, link, by omega, by simp only [axI]; omega⟩
  · by_cases h2 : link < 2 * N
    · exact ⟨1, link - N, by omega, by simp only [axI]; omega⟩
    · exact ⟨2, link - 2 * N, by omega, by simp only [axI]; omega⟩

end Go.Proofs.YtldcagjnngkabaaGreatDoor

/-
  wire.line hands out the cables of a line, one behind the other, and stops where a round says so.
-/
namespace Go.Proofs.YtldcagjnngkabaaGreatDoor
open Go.RowKit Go.Shelf

attribute [local go_sem] Oper.semAt_some ext_const

/-- So many cables of a line, from m on. -/
def seqW (d0 d1 d2 m : Int) (k : Fin 3) (n : Nat) : List Int := (List.range n).map fun i : Nat => cabW d0 d1 d2 k (onD d0 d1 d2 m k (i : Int))
theorem seqW_len (d0 d1 d2 m : Int) (k : Fin 3) (n : Nat) : (seqW d0 d1 d2 m k n).length = n := by simp [seqW]
theorem seqW_succ (d0 d1 d2 m : Int) (k : Fin 3) (n : Nat) : seqW d0 d1 d2 m k (n + 1) = seqW d0 d1 d2 m k n ++ [cabW d0 d1 d2 k (onD d0 d1 d2 m k (n : Int))] := by
  simp [seqW, List.range_succ]
theorem seqW_pre (d0 d1 d2 m : Int) (k : Fin 3) {n n' : Nat} (h : n ≤ n') : seqW d0 d1 d2 m k n <+: seqW d0 d1 d2 m k n' := by
  obtain ⟨j, rfl⟩ := Nat.le.dest h
  induction j with
  | zero => exact List.prefix_refl _
  | succ j ih => exact (ih (by omega)).trans (by rw [← Nat.add_assoc, seqW_succ]; exact List.prefix_append _ _)
/-- All that a line hands out. -/
def outW (d0 d1 d2 m : Int) (k : Fin 3) : List Int := if 1 < dimAt d0 d1 d2 k then seqW d0 d1 d2 m k (dimAt d0 d1 d2 k).toNat else []

theorem abide_below {J : List Int → World → Prop} {B : Nat} (hJ : AbidesFrom B J) {pre : List Int} {W W' : World} (h : J pre W) (hb : Below W.heap.size W W') : J pre W' :=
  hJ pre W W' none h ⟨hb.os, hb.tape, hb.output, hb.size, fun k hk _ => hb.block k hk⟩ (fun r e => by cases e)

set_option maxHeartbeats 400000 in
theorem line_calls (d0 d1 d2 axis m : Int) (w : World) :
    Calls Tryz.prog 183 #[A3 d0 d1 d2, I axis, I m] w fun e w' => e = .returned (.func (.func 199) #[] #[.pointer (some ⟨w.heap.size, 0, none⟩), .pointer (some ⟨w.heap.size + 1, 0, none⟩), .pointer (some ⟨w.heap.size + 1 + 1, 0, none⟩)]) ∧
      w' = ((w.alloc (.cells #[I d0, I d1, I d2] 23)).alloc (.cells #[I axis] 3)).alloc (.cells #[I m] 3) := by
  go_enter Tryz.func183, Tryz.ntmps183
  go_wp2
  go_ret
  exact ⟨rfl, rfl⟩

set_option maxRecDepth 100000 in
set_option maxHeartbeats 2000000 in
/-- The closure's rounds, along an axis that has cables. -/
theorem line1_yes {d0 d1 d2 m : Int} (hm : mayD d0 d1 d2) (hn : 0 ≤ m ∧ m < d0 * d1 * d2) (k : Fin 3) (h1 : 1 < dimAt d0 d1 d2 k) (n : Nat) (h1n : 1 ≤ n) (l Bd Ba Bm n₀ : Nat) (J Jx : List Int → World → Prop) (W : World)
    (hd : Bd < n₀) (ha : Ba < n₀) (hmm : Bm < n₀) (hn₀ : n₀ ≤ W.heap.size) (bd : Blk W Bd 23 #[I d0, I d1, I d2]) (ba : Blk W Ba 3 #[I (axI k)]) (bm : Blk W Bm 3 #[I m]) (hJ : AbidesFrom W.heap.size J)
    (hY : ∀ pre x W1, J pre W1 → pre.length < (outW d0 d1 d2 m k).length → YieldAt Fence.wide (n - 1) Tryz.prog l #[I x] W1 fun e W' =>
      (e = .returned (.bool true) ∧ J (pre ++ [x]) W' ∧ Below n₀ W1 W') ∨ (e = .returned (.bool false) ∧ Jx (pre ++ [x]) W')) (h0 : J [] W) :
    CallsIn Fence.wide n Tryz.prog 199 #[.func (.yield l) #[] #[], .pointer (some ⟨Bd, 0, none⟩), .pointer (some ⟨Ba, 0, none⟩), .pointer (some ⟨Bm, 0, none⟩)] W fun e W' =>
      (∃ v, e = .returned v) ∧ ((∃ xs, xs = outW d0 d1 d2 m k ∧ J xs W') ∨ (∃ pre, pre <+: outW d0 d1 d2 m k ∧ Jx pre W')) := by
  have eo : outW d0 d1 d2 m k = seqW d0 d1 d2 m k (dimAt d0 d1 d2 k).toNat := by unfold outW; rw [if_pos h1]
  rw [eo] at hY ⊢
  rw [seqW_len] at hY
  have hk := dimAt_ok hm k
  unfold okD at hk
  obtain ⟨dn, hdn⟩ : ∃ dn : Nat, dimAt d0 d1 d2 k = (dn : Int) := ⟨(dimAt d0 d1 d2 k).toNat, by omega⟩
  have edn : (dimAt d0 d1 d2 k).toNat = dn := by omega
  rw [edn] at hY ⊢
  have hdn1 : 1 ≤ dn ∧ dn ≤ 16 := by omega
  have HN : Hid (0 ≤ m ∧ m < d0 * d1 * d2) := hn
  have HY : Hid (∀ pre x W1, J pre W1 → pre.length < dn → YieldAt Fence.wide (n - 1) Tryz.prog l #[I x] W1 fun e W' =>
      (e = .returned (.bool true) ∧ J (pre ++ [x]) W' ∧ Below n₀ W1 W') ∨ (e = .returned (.bool false) ∧ Jx (pre ++ [x]) W')) := hY
  have HS : Hid (∀ (i : Nat) w, Calls Tryz.prog 198 #[A3 d0 d1 d2, I m, I (axI k), I (i : Int)] w fun x W' => x = .returned (.tuple #[I (onD d0 d1 d2 m k i), I 0]) ∧ Below w.heap.size w W') := fun i w => step_yes w hm hn k
  have HL : Hid (∀ (i : Nat) w, Calls Tryz.prog 200 #[A3 d0 d1 d2, I (axI k), I (onD d0 d1 d2 m k i)] w fun x W' => x = .returned (.tuple #[I (cabW d0 d1 d2 k (onD d0 d1 d2 m k i)), I 0]) ∧ Below w.heap.size w W') := fun i w => link_yes w hm (on_node hm hn k i) rfl h1
  have HSu : Hid (∀ i : Nat, seqW d0 d1 d2 m k (i + 1) = seqW d0 d1 d2 m k i ++ [cabW d0 d1 d2 k (onD d0 d1 d2 m k (i : Int))]) := fun i => seqW_succ d0 d1 d2 m k i
  have HPre : Hid (∀ {i j : Nat}, i ≤ j → seqW d0 d1 d2 m k i <+: seqW d0 d1 d2 m k j) := fun h => seqW_pre d0 d1 d2 m k h
  have HJ : Hid (AbidesFrom W.heap.size J) := hJ
  have HLen : Hid (∀ i, (seqW d0 d1 d2 m k i).length = i) := fun i => seqW_len d0 d1 d2 m k i
  have hS0 : seqW d0 d1 d2 m k 0 = [] := rfl
  generalize hC : (fun i : Nat => cabW d0 d1 d2 k (onD d0 d1 d2 m k (i : Int))) = C at *
  generalize hO : (fun i : Nat => onD d0 d1 d2 m k (i : Int)) = O at *
  have HC : Hid (∀ i : Nat, cabW d0 d1 d2 k (onD d0 d1 d2 m k (i : Int)) = C i) := fun i => congrFun hC i
  have HO : Hid (∀ i : Nat, onD d0 d1 d2 m k (i : Int) = O i) := fun i => congrFun hO i
  have HS2 : Hid (∀ (i : Nat) w, Calls Tryz.prog 198 #[A3 d0 d1 d2, I m, I (axI k), I (i : Int)] w fun x W' => x = .returned (.tuple #[I (O i), I 0]) ∧ Below w.heap.size w W') := fun i w => by rw [← HO.out i]; exact HS.out i w
  have HL2 : Hid (∀ (i : Nat) w, Calls Tryz.prog 200 #[A3 d0 d1 d2, I (axI k), I (O i)] w fun x W' => x = .returned (.tuple #[I (C i), I 0]) ∧ Below w.heap.size w W') := fun i w => by rw [← HO.out i, ← HC.out i]; exact HL.out i w
  have HSu2 : Hid (∀ i : Nat, seqW d0 d1 d2 m k (i + 1) = seqW d0 d1 d2 m k i ++ [C i]) := fun i => by rw [← HC.out i]; exact HSu.out i
  generalize seqW d0 d1 d2 m k = S at *
  have b0 := bd.cell 0
  have b1 := bd.cell 1
  have b2 := bd.cell 2
  have a0 := ba.cell 0
  simp at b0 b1 b2 a0
  have hid : Hid (W.cell? ⟨Bd, (axI k).toNat, none⟩ = some (I (dn : Int))) := by
    rw [← hdn]
    rcases fin3 k with rfl | rfl | rfl
    · exact bd.cell 0
    · exact bd.cell 1
    · exact bd.cell 2
  clear hn hY hJ HS HL HSu hC hO HC HO eo edn hk
  rcases fin3 k with rfl | rfl | rfl
  all_goals
    simp only [axI, dimAt] at *
    subst hdn
    refine callsIn_of_wp Tryz.func199 rfl trivial ?_ rfl
    simp only [Tryz.ntmps199, List.size_toArray, List.length_cons, List.length_nil, Nat.reduceAdd, Nat.reduceSub, Array.replicate_succ, Array.replicate_zero, List.push_toArray, List.append_toArray, List.nil_append, List.cons_append]
    gi_wp2
    gi_loopw [12] (fun i wr => ∃ j : Nat, j ≤ dn ∧ i = .int .i64 j ∧ J (S j) wr ∧ Below n₀ W wr) (fun i _ => dn - (RowKit.intOf i).toNat)
    case atStart => exact ⟨0, by omega, rfl, by rw [hS0]; exact h0, Below.refl _ _⟩
    case round =>
      obtain ⟨j, hj, rfl, hJj, hT⟩ := hrel
      have bd' := bd.below hT hd
      have ba' := ba.below hT ha
      have bm' := bm.below hT hmm
      have c0 := bd'.cell 0
      have c1 := bd'.cell 1
      have c2 := bd'.cell 2
      have c3 := ba'.cell 0
      have c4 := bm'.cell 0
      simp at c0 c1 c2 c3 c4
      by_cases hlt : (j : Int) < (dn : Int)
      · gi_wp2_with fail
        refine ⟨trivial, (callsIn_wide.2 (HS2.out j wr)).mono ?_⟩
        rintro e w1 ⟨rfl, hB1⟩
        have bd1 := bd'.later hB1
        have ba1 := ba'.later hB1
        have bm1 := bm'.later hB1
        have e0 := bd1.cell 0
        have e1 := bd1.cell 1
        have e2 := bd1.cell 2
        have e3 := ba1.cell 0
        simp at e0 e1 e2 e3
        gi_wp2_with fail
        refine ⟨trivial, (callsIn_wide.2 (HL2.out j w1)).mono ?_⟩
        rintro e w2 ⟨rfl, hB2⟩
        have hJ2 : J (S j) w2 := abide_below HJ.out (abide_below HJ.out hJj hB1) hB2
        have hT2 : Below n₀ W w2 := hT.trans ((then_below hB1 hB2).mono (by have := hT.size; omega))
        obtain ⟨f1, t1, as1, bo1, hy1, hR1⟩ := HY.out (S j) (C j) w2 hJ2 (by rw [HLen.out]; omega)
        gi_wp2
        refine hR1.mono ?_
        rintro e W3 (⟨rfl, hJ3, hk3⟩ | ⟨rfl, hJx3⟩)
        · gi_wp2
          go_roundw
          case rel => exact ⟨j + 1, by omega, by go_num, by rw [HSu2.out]; exact hJ3, hT2.trans hk3⟩
          case measure => simp [RowKit.intOf]; omega
        · gi_wp2
          refine bodyPost_ret (results_none rfl _ _ _) rfl ?_
          exact ⟨⟨_, rfl⟩, .inr ⟨_, by rw [← HSu2.out]; exact HPre.out (by omega), hJx3⟩⟩
      · obtain rfl : j = dn := by omega
        gi_wp2
        go_end0
        exact ⟨⟨_, rfl⟩, .inl hJj⟩

set_option maxRecDepth 100000 in
set_option maxHeartbeats 2000000 in
/-- .. along one that has none: no round. -/
theorem line1_no {d0 d1 d2 m : Int} (hm : mayD d0 d1 d2) (hn : 0 ≤ m ∧ m < d0 * d1 * d2) (k : Fin 3) (h1 : ¬ 1 < dimAt d0 d1 d2 k) (n : Nat) (h1n : 1 ≤ n) (l Bd Ba Bm : Nat) (J : List Int → World → Prop) (W : World)
    (bd : Blk W Bd 23 #[I d0, I d1, I d2]) (ba : Blk W Ba 3 #[I (axI k)]) (bm : Blk W Bm 3 #[I m]) (hJ : AbidesFrom W.heap.size J) (h0 : J [] W) :
    CallsIn Fence.wide n Tryz.prog 199 #[.func (.yield l) #[] #[], .pointer (some ⟨Bd, 0, none⟩), .pointer (some ⟨Ba, 0, none⟩), .pointer (some ⟨Bm, 0, none⟩)] W fun e W' =>
      (∃ v, e = .returned v) ∧ J [] W' := by
  have hk := dimAt_ok hm k
  unfold okD at hk
  have hdn : dimAt d0 d1 d2 k = 1 := by omega
  have HJ : Hid (AbidesFrom W.heap.size J) := hJ
  have HS : Hid (∀ w, Calls Tryz.prog 198 #[A3 d0 d1 d2, I m, I (axI k), I 0] w fun x W' => x = .returned (.tuple #[I (onD d0 d1 d2 m k 0), I 0]) ∧ Below w.heap.size w W') := fun w => step_yes w hm hn k
  have HL : Hid (∀ w, Calls Tryz.prog 200 #[A3 d0 d1 d2, I (axI k), I (onD d0 d1 d2 m k 0)] w fun x W' => x = .returned (.tuple #[I 0, I 6]) ∧ Below w.heap.size w W') := fun w => link_none w hm (on_node hm hn k 0) rfl h1
  generalize onD d0 d1 d2 m k 0 = o at *
  have b0 := bd.cell 0
  have b1 := bd.cell 1
  have b2 := bd.cell 2
  have a0 := ba.cell 0
  have m0 := bm.cell 0
  simp at b0 b1 b2 a0 m0
  clear hn hJ h1 hk
  rcases fin3 k with rfl | rfl | rfl
  all_goals
    simp only [axI, dimAt] at *
    subst hdn
    refine callsIn_of_wp Tryz.func199 rfl trivial ?_ rfl
    simp only [Tryz.ntmps199, List.size_toArray, List.length_cons, List.length_nil, Nat.reduceAdd, Nat.reduceSub, Array.replicate_succ, Array.replicate_zero, List.push_toArray, List.append_toArray, List.nil_append, List.cons_append]
    gi_wp2
    gi_loopw [12] (fun i wr => i = .int .i64 0 ∧ wr = W) (fun _ _ => 0)
    case atStart => exact ⟨rfl, by trivial⟩
    case round =>
      obtain ⟨rfl, hw⟩ := hrel
      subst hw
      gi_wp2_with fail
      refine ⟨trivial, (callsIn_wide.2 (HS.out wr)).mono ?_⟩
      rintro e w1 ⟨rfl, hB1⟩
      have bd1 := bd.later hB1
      have ba1 := ba.later hB1
      have e0 := bd1.cell 0
      have e1 := bd1.cell 1
      have e2 := bd1.cell 2
      have e3 := ba1.cell 0
      simp at e0 e1 e2 e3
      gi_wp2_with fail
      refine ⟨trivial, (callsIn_wide.2 (HL.out w1)).mono ?_⟩
      rintro e w2 ⟨rfl, hB2⟩
      have hJ2 : J [] w2 := abide_below HJ.out (abide_below HJ.out h0 hB1) hB2
      gi_wp2
      refine ⟨fun f h => (by cases h), ?_⟩
      gi_wp2
      refine bodyPost_ret (results_none rfl _ _ _) rfl ?_
      exact ⟨⟨_, rfl⟩, hJ2⟩

/-- What wire.line hands back, as a range over it asks. -/
theorem line_stops {d0 d1 d2 m : Int} (hm : mayD d0 d1 d2) (hn : 0 ≤ m ∧ m < d0 * d1 * d2) (k : Fin 3) (n : Nat) (h1n : 1 ≤ n) (Bd Ba Bm n₀ : Nat) (w : World)
    (hd : Bd < n₀) (ha : Ba < n₀) (hmm : Bm < n₀) (hn₀ : n₀ ≤ w.heap.size) (bd : Blk w Bd 23 #[I d0, I d1, I d2]) (ba : Blk w Ba 3 #[I (axI k)]) (bm : Blk w Bm 3 #[I m]) :
    SeqStopsK Fence.wide n Tryz.prog 199 #[.pointer (some ⟨Bd, 0, none⟩), .pointer (some ⟨Ba, 0, none⟩), .pointer (some ⟨Bm, 0, none⟩)] (fun x : Int => #[I x]) (Below n₀) (fun xs => xs = outW d0 d1 d2 m k) (fun pre => pre <+: outW d0 d1 d2 m k) (outW d0 d1 d2 m k).length w := fun l J Jx W hW hJ _ hY h0 => by
  have hB := hW.mono hn₀
  by_cases h1 : 1 < dimAt d0 d1 d2 k
  · exact line1_yes hm hn k h1 n h1n l Bd Ba Bm n₀ J Jx W hd ha hmm (Nat.le_trans hn₀ hW.size) (bd.below hB hd) (ba.below hB ha) (bm.below hB hmm) hJ hY h0
  · refine (line1_no hm hn k h1 n h1n l Bd Ba Bm J W (bd.below hB hd) (ba.below hB ha) (bm.below hB hmm) hJ h0).mono ?_
    rintro e W' ⟨he, hj⟩
    exact ⟨he, .inl ⟨[], by unfold outW; rw [if_neg h1], hj⟩⟩

end Go.Proofs.YtldcagjnngkabaaGreatDoor

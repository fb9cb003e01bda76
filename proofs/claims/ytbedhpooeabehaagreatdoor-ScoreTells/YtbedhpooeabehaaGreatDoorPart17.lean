/-
  place.cables: the cables that a place takes, line by line.
-/
import Derived.Test.YtbedhpooeabehaaGreatDoorPlaceTake
import Derived.Test.YtbedhpooeabehaaGreatDoorPart15
import Derived.Test.YtbedhpooeabehaaGreatDoorPart6
import Derived.Test.YtbedhpooeabehaaGreatDoorPart5
import Derived.Test.YtbedhpooeabehaaGreatDoorPart10
import Derived.Test.YtbedhpooeabehaaGreatDoorPart11
namespace Go.Proofs.YtbedhpooeabehaaGreatDoor
open Go Go.RowKit Go.Shelf

attribute [local go_sem] Oper.semAt_some ext_const

set_option maxRecDepth 100000 in
set_option maxHeartbeats 8000000 in
theorem cables_calls {d0 d1 d2 : Int} {b : Bx} {t0 t1 t2 : Bool} (w : World) (hm : mayD d0 d1 d2) (hp : mayP d0 d1 d2 b t0 t1 t2) :
    Calls Tryz.prog 51 #[A3 d0 d1 d2, P9 b t0 t1 t2] w fun e W' => ∃ v, e = .returned (.tuple #[v, I 0]) ∧ Lst W' w.heap.size v (cabsL d0 d1 d2 b t0 t1 t2) ∧ Below w.heap.size w W' := by
  have HM : Hid (mayD d0 d1 d2) := hm
  have HP : Hid (mayP d0 d1 d2 b t0 t1 t2) := hp
  have l0 := cabK_len hm hp 0
  have l1 := cabK_len hm hp 1
  have HC : Hid (cabsL d0 d1 d2 b t0 t1 t2 = cabK d0 d1 d2 b t0 t1 t2 0 ++ cabK d0 d1 d2 b t0 t1 t2 1 ++ cabK d0 d1 d2 b t0 t1 t2 2) := rfl
  have T0 := fun (w : World) {Bd Bp Bl : Nat} {v : Value} {xs : List Int} (hD : Blk w Bd 23 #[I d0, I d1, I d2]) (hP : Blk w Bp 30 (C9 b t0 t1 t2)) (hL : Blk w Bl 57 #[v]) (hDL : Bd < Bl) (hPL : Bp < Bl) (hv : Lst w (Bl + 1) v xs) (hl : xs.length ≤ 20000) => take0 w hm hp hD hP hL hDL hPL hv hl
  have T1 := fun (w : World) {Bd Bp Bl : Nat} {v : Value} {xs : List Int} (hD : Blk w Bd 23 #[I d0, I d1, I d2]) (hP : Blk w Bp 30 (C9 b t0 t1 t2)) (hL : Blk w Bl 57 #[v]) (hDL : Bd < Bl) (hPL : Bp < Bl) (hv : Lst w (Bl + 1) v xs) (hl : xs.length ≤ 20000) => take1 w hm hp hD hP hL hDL hPL hv hl
  have T2 := fun (w : World) {Bd Bp Bl : Nat} {v : Value} {xs : List Int} (hD : Blk w Bd 23 #[I d0, I d1, I d2]) (hP : Blk w Bp 30 (C9 b t0 t1 t2)) (hL : Blk w Bl 57 #[v]) (hDL : Bd < Bl) (hPL : Bp < Bl) (hv : Lst w (Bl + 1) v xs) (hl : xs.length ≤ 20000) => take2 w hm hp hD hP hL hDL hPL hv hl
  clear hm hp
  generalize cabK d0 d1 d2 b t0 t1 t2 0 = L0 at *
  generalize cabK d0 d1 d2 b t0 t1 t2 1 = L1 at *
  generalize cabK d0 d1 d2 b t0 t1 t2 2 = L2 at *
  rw [HC.out]
  go_enter Tryz.func51, Tryz.ntmps51
  go_wp2_with fail
  obtain ⟨W, hW, hs, hB0, b0, b1, b2⟩ := three_start w #[I d0, I d1, I d2] (C9 b t0 t1 t2) #[.slice none 0 0] 23 30 57
  rw [hW]
  clear hW
  go_loopw [11] (fun i wr => ∃ u, ((i = .int .i64 0 ∧ Lst wr (w.heap.size + 1 + 1 + 1) u []) ∨ (i = .int .i64 1 ∧ Lst wr (w.heap.size + 1 + 1 + 1) u L0) ∨ (i = .int .i64 2 ∧ Lst wr (w.heap.size + 1 + 1 + 1) u (L0 ++ L1)) ∨ (i = .int .i64 3 ∧ Lst wr (w.heap.size + 1 + 1 + 1) u (L0 ++ L1 ++ L2))) ∧ Blk wr (w.heap.size + 1 + 1) 57 #[u] ∧ Below (w.heap.size + 1 + 1) W wr) (fun i _ => 3 - (RowKit.intOf i).toNat)
  case atStart => exact ⟨_, .inl ⟨rfl, Lst.nil _ _⟩, b2, Below.refl _ _⟩
  case round =>
    obtain ⟨u, hi, hL, hB⟩ := hrel
    have g0 := b0.below hB (by omega)
    have g1 := b1.below hB (by omega)
    rcases hi with ⟨rfl, hu⟩ | ⟨rfl, hu⟩ | ⟨rfl, hu⟩ | ⟨rfl, hu⟩
    · go_wp2_with fail
      refine (T0 wr g0 g1 hL (by omega) (by omega) hu (by simp)).mono ?_
      rintro e w2 ⟨u2, rfl, hL2, hu2, hB2⟩
      rw [List.nil_append] at hu2
      clear g0 g1 hL hu
      go_wp2
      go_roundw
      case rel => exact ⟨u2, .inr (.inl ⟨rfl, hu2⟩), hL2, hB.trans hB2⟩
      case measure => simp [RowKit.intOf]
    · go_wp2_with fail
      refine (T1 wr g0 g1 hL (by omega) (by omega) hu (by omega)).mono ?_
      rintro e w2 ⟨u2, rfl, hL2, hu2, hB2⟩
      skip
      clear g0 g1 hL hu
      go_wp2
      go_roundw
      case rel => exact ⟨u2, .inr (.inr (.inl ⟨rfl, hu2⟩)), hL2, hB.trans hB2⟩
      case measure => simp [RowKit.intOf]
    · go_wp2_with fail
      refine (T2 wr g0 g1 hL (by omega) (by omega) hu (by rw [List.length_append]; omega)).mono ?_
      rintro e w2 ⟨u2, rfl, hL2, hu2, hB2⟩
      skip
      clear g0 g1 hL hu
      go_wp2
      go_roundw
      case rel => exact ⟨u2, .inr (.inr (.inr ⟨rfl, hu2⟩)), hL2, hB.trans hB2⟩
      case measure => simp [RowKit.intOf]
    · have c0 := hL.cell 0
      simp at c0
      have hz := hL.lt
      go_wp2
      go_ret2
      exact ⟨_, rfl, hu.weak (by omega), hB0.trans (hB.mono (by omega))⟩

end Go.Proofs.YtbedhpooeabehaaGreatDoor

/-
  Plain arithmetic of places, as the statements ask for it: how many cables; a mesh; what is passed; apart. No program is walked here.
-/
namespace Go.Proofs.YtbedhpooeabehaaGreatDoor
open Go Go.RowKit

/-- How many cables a place takes along an axis, of n midplanes. -/
def wantK (d0 d1 d2 n : Int) (b : Bx) (t0 t1 t2 : Bool) (k : Fin 3) : Int := n / sAt b k * runS (dimAt d0 d1 d2 k) (sAt b k) (tK t0 t1 t2 k)
theorem div_out {x y : Int} (h : 1 ≤ x) : x * y / x = y := Int.mul_ediv_cancel_left y (by omega)
theorem counts_want {d0 d1 d2 : Int} {b : Bx} {t0 t1 t2 : Bool} (h : mayD d0 d1 d2) (hb : mayB d0 d1 d2 b) :
    ((listR (3 * (d0 * d1 * d2)) (cabsW d0 d1 d2 b t0 t1 t2)).length : Int) = wantK d0 d1 d2 ((nodesB d0 d1 d2 b).length : Int) b t0 t1 t2 0 + wantK d0 d1 d2 ((nodesB d0 d1 d2 b).length : Int) b t0 t1 t2 1 + wantK d0 d1 d2 ((nodesB d0 d1 d2 b).length : Int) b t0 t1 t2 2 := by
  have hN := N_bd h
  unfold cabsW
  rw [setOf_list (by omega) (by omega), ofN_len, cab_count h]
  have ok : ∀ k j, sideOk (dimAt d0 d1 d2 j) (bAt (boxK d0 d1 d2 b t0 t1 t2 k) j) (sAt (boxK d0 d1 d2 b t0 t1 t2 k) j) := fun k j => by
    unfold boxK
    rw [upB_b, upB_s]
    refine ⟨(mayB_at hb j).2, ?_⟩
    split
    · rename_i e; subst e; exact runS_bd _ (mayB_at hb j).1
    · have := (mayB_at hb j).1; omega
  have c := fun k => nodes_count h (b := boxK d0 d1 d2 b t0 t1 t2 k) (ok k)
  have l := nodes_count h (b := b) (fun j => ⟨(mayB_at hb j).2, by have := (mayB_at hb j).1; omega⟩)
  have ha := (mayB_at hb 0).1.1
  have hbb := (mayB_at hb 1).1.1
  have hc := (mayB_at hb 2).1.1
  push_cast
  rw [c 0, c 1, c 2, l]
  unfold wantK
  generalize hz0 : runS (dimAt d0 d1 d2 0) (sAt b 0) (tK t0 t1 t2 0) = z0
  generalize hz1 : runS (dimAt d0 d1 d2 1) (sAt b 1) (tK t0 t1 t2 1) = z1
  generalize hz2 : runS (dimAt d0 d1 d2 2) (sAt b 2) (tK t0 t1 t2 2) = z2
  have e0 : boxK d0 d1 d2 b t0 t1 t2 0 = ⟨b.x, b.y, b.z, z0, b.b, b.c⟩ := by rw [← hz0]; rfl
  have e1 : boxK d0 d1 d2 b t0 t1 t2 1 = ⟨b.x, b.y, b.z, b.a, z1, b.c⟩ := by rw [← hz1]; rfl
  have e2 : boxK d0 d1 d2 b t0 t1 t2 2 = ⟨b.x, b.y, b.z, b.a, b.b, z2⟩ := by rw [← hz2]; rfl
  rw [e0, e1, e2]
  have s0 : sAt b 0 = b.a := rfl
  have s1 : sAt b 1 = b.b := rfl
  have s2 : sAt b 2 = b.c := rfl
  rw [s0] at ha
  rw [s1] at hbb
  rw [s2] at hc
  rw [s0, s1, s2]
  dsimp only
  have q0 : b.a * b.b * b.c / b.a = b.b * b.c := by rw [Int.mul_assoc]; exact div_out ha
  have q1 : b.a * b.b * b.c / b.b = b.a * b.c := by rw [Int.mul_comm b.a b.b, Int.mul_assoc]; exact div_out hbb
  have q2 : b.a * b.b * b.c / b.c = b.a * b.b := by rw [Int.mul_comm]; exact div_out hc
  rw [q0, q1, q2]
  congr 1
  · congr 1
    · rw [Int.mul_assoc, Int.mul_comm]
    · rw [Int.mul_assoc, Int.mul_assoc, Int.mul_comm z1]

theorem mesh_may {d0 d1 d2 : Int} {b : Bx} {t0 t1 t2 : Bool} (hp : mayP d0 d1 d2 b t0 t1 t2) : mayP d0 d1 d2 b false false false :=
  ⟨hp.1, hp.2.1, fun k hk => by rcases fin3 k with rfl | rfl | rfl <;> simp [tK] at hk⟩
theorem mesh_tK (k : Fin 3) : tK false false false k = false := by rcases fin3 k with rfl | rfl | rfl <;> rfl
theorem mesh_within {d0 d1 d2 : Int} {b : Bx} {t0 t1 t2 : Bool} (h : mayD d0 d1 d2) (hb : mayB d0 d1 d2 b) : inSB (3 * (d0 * d1 * d2)) (cabsW d0 d1 d2 b false false false) (cabsW d0 d1 d2 b t0 t1 t2) = true := by
  have hN := N_bd h
  refine setOf_in (by omega) (by omega) fun j hj hc => ?_
  obtain ⟨k, o, ho, e⟩ := cab_of h (link := (j : Int)) (by omega)
  rw [e, cabB_at ho k] at hc ⊢
  unfold boxK at hc ⊢
  rw [mesh_tK] at hc
  exact mesh_in h hb ho k _ hc
theorem passTo_nil {d0 d1 d2 : Int} {b : Bx} {t0 t1 t2 : Bool} {k : Nat} (hk : k ≤ (d0 * d1 * d2).toNat) (hn : ∀ m, (0 ≤ m ∧ m < d0 * d1 * d2) → ¬ passB d0 d1 d2 b t0 t1 t2 m) : passTo d0 d1 d2 b t0 t1 t2 k = [] := by
  unfold passTo ofN
  rw [List.map_eq_nil_iff, List.filter_eq_nil_iff]
  intro j hj hp
  have := List.mem_range.1 hj
  exact hn (j : Int) (by omega) (pasB_iff.1 hp)
theorem mesh_pass {d0 d1 d2 : Int} {b : Bx} (h : mayD d0 d1 d2) (hb : mayB d0 d1 d2 b) : passL d0 d1 d2 b false false false = [] :=
  passTo_nil (Nat.le_refl _) fun m hm => pass_none h hb hm fun k ho => by rw [opens, mesh_tK] at ho; exact absurd ho.1 (by simp)
/-- A cable of a mesh, and its ends. -/
theorem mesh_cab {d0 d1 d2 : Int} {b : Bx} (h : mayD d0 d1 d2) (hb : mayP d0 d1 d2 b false false false) {n : Int} (hn : n ∈ listR (3 * (d0 * d1 * d2)) (cabsW d0 d1 d2 b false false false)) :
    ∃ (k : Fin 3) (o : Int), (0 ≤ o ∧ o < d0 * d1 * d2) ∧ 1 < dimAt d0 d1 d2 k ∧ n = cabW d0 d1 d2 k o ∧ hasR (d0 * d1 * d2) (midW d0 d1 d2 b) o = true ∧ hasR (d0 * d1 * d2) (midW d0 d1 d2 b) (onD d0 d1 d2 o k 1) = true := by
  have hN := N_bd h
  unfold cabsW at hn
  rw [setOf_list (by omega) (by omega), ofN, List.mem_map] at hn
  obtain ⟨j, hj, rfl⟩ := hn
  rw [List.mem_filter, List.mem_range] at hj
  obtain ⟨k, o, ho, e⟩ := cab_of h (link := (j : Int)) (by omega)
  have hc := hj.2
  rw [e, cabB_at ho k] at hc
  have hw := takes_wired h hb ho hc
  have he := mesh_takes h hb.1 ho (mesh_tK k) hc
  have h1 := on_node h ho k 1
  refine ⟨k, o, ho, hw, e, ?_, ?_⟩
  · unfold midW
    rw [setOf_has (by omega) (by omega) _ ho, Int.toNat_of_nonneg ho.1]
    exact he.1
  · unfold midW
    rw [setOf_has (by omega) (by omega) _ h1, Int.toNat_of_nonneg h1.1]
    exact he.2

/-- It is a torus along some axis that it does not take whole. -/
def someK (d0 d1 d2 : Int) (b : Bx) (t0 t1 t2 : Bool) (k : Fin 3) : Bool := tK t0 t1 t2 k && decide (sAt b k < dimAt d0 d1 d2 k)
theorem someK_iff {d0 d1 d2 : Int} {b : Bx} {t0 t1 t2 : Bool} {k : Fin 3} : someK d0 d1 d2 b t0 t1 t2 k = true ↔ opens d0 d1 d2 b t0 t1 t2 k := by
  unfold someK opens
  rw [Bool.and_eq_true, decide_eq_true_eq]
theorem pass_len {d0 d1 d2 : Int} {b : Bx} {t0 t1 t2 : Bool} (h : mayD d0 d1 d2) (hb : mayB d0 d1 d2 b) :
    decide (0 < ((passL d0 d1 d2 b t0 t1 t2).length : Int)) = (someK d0 d1 d2 b t0 t1 t2 0 || someK d0 d1 d2 b t0 t1 t2 1 || someK d0 d1 d2 b t0 t1 t2 2) := by
  rw [Bool.eq_iff_iff, Bool.or_eq_true, Bool.or_eq_true, someK_iff, someK_iff, someK_iff, decide_eq_true_eq]
  constructor
  · intro hl
    by_cases ho : ∃ k, opens d0 d1 d2 b t0 t1 t2 k
    · obtain ⟨k, hk⟩ := ho
      rcases fin3 k with rfl | rfl | rfl
      · exact .inl (.inl hk)
      · exact .inl (.inr hk)
      · exact .inr hk
    · have e : passL d0 d1 d2 b t0 t1 t2 = [] := passTo_nil (Nat.le_refl _) fun m hm => pass_none h hb hm fun k hk => ho ⟨k, hk⟩
      rw [e] at hl
      simp at hl
  · intro ho
    obtain ⟨k, hk⟩ : ∃ k, opens d0 d1 d2 b t0 t1 t2 k := by
      rcases ho with (h | h) | h
      · exact ⟨_, h⟩
      · exact ⟨_, h⟩
      · exact ⟨_, h⟩
    obtain ⟨m, hm, hp⟩ := pass_some h hb hk
    have hin : m ∈ passL d0 d1 d2 b t0 t1 t2 := by
      unfold passL passTo ofN
      rw [List.mem_map]
      refine ⟨m.toNat, ?_, Int.toNat_of_nonneg hm.1⟩
      rw [List.mem_filter, List.mem_range, Int.toNat_of_nonneg hm.1]
      exact ⟨by omega, pasB_iff.2 hp⟩
    have := List.length_pos_of_mem hin
    omega
theorem pass_at {d0 d1 d2 : Int} {b : Bx} {t0 t1 t2 : Bool} {i : Nat} (hi : i < (passL d0 d1 d2 b t0 t1 t2).length) :
    (0 ≤ (passL d0 d1 d2 b t0 t1 t2).getD i 0 ∧ (passL d0 d1 d2 b t0 t1 t2).getD i 0 < d0 * d1 * d2) ∧ hasB d0 d1 d2 b ((passL d0 d1 d2 b t0 t1 t2).getD i 0) = false := by
  have hin : (passL d0 d1 d2 b t0 t1 t2).getD i 0 ∈ passL d0 d1 d2 b t0 t1 t2 := by
    rw [List.getD_eq_getElem?_getD, List.getElem?_eq_getElem hi]
    exact List.getElem_mem hi
  generalize (passL d0 d1 d2 b t0 t1 t2).getD i 0 = x at hin ⊢
  unfold passL passTo ofN at hin
  rw [List.mem_map] at hin
  obtain ⟨j, hj, rfl⟩ := hin
  rw [List.mem_filter, List.mem_range] at hj
  exact ⟨by omega, (pasB_iff.1 hj.2).1⟩
theorem pass_rise {d0 d1 d2 : Int} {b : Bx} {t0 t1 t2 : Bool} {i : Nat} (hi : i + 1 < (passL d0 d1 d2 b t0 t1 t2).length) : (passL d0 d1 d2 b t0 t1 t2).getD i 0 < (passL d0 d1 d2 b t0 t1 t2).getD (i + 1) 0 := by
  have hr : (passL d0 d1 d2 b t0 t1 t2).Pairwise (· < ·) := by
    unfold passL passTo ofN
    refine List.pairwise_map.2 ((List.pairwise_lt_range.filter _).imp fun {a b} hab => ?_)
    omega
  have := List.pairwise_iff_getElem.1 hr i (i + 1) (by omega) hi (by omega)
  rw [List.getD_eq_getElem?_getD, List.getD_eq_getElem?_getD, List.getElem?_eq_getElem hi, List.getElem?_eq_getElem (by omega : i < _)]
  exact this
theorem passL_len {d0 d1 d2 : Int} (h : mayD d0 d1 d2) (b : Bx) (t0 t1 t2 : Bool) : (passL d0 d1 d2 b t0 t1 t2).length ≤ 4096 := by
  have hN := N_bd h
  unfold passL passTo
  rw [ofN_len]
  have := List.length_filter_le (fun j : Nat => pasB d0 d1 d2 b t0 t1 t2 (j : Int)) (List.range (d0 * d1 * d2).toNat)
  rw [List.length_range] at this
  omega

/-- Two places have nothing in common. -/
def apartB (d0 d1 d2 : Int) (a : Bx) (s0 s1 s2 : Bool) (b : Bx) (t0 t1 t2 : Bool) : Bool := !anyB (midW d0 d1 d2 a) (midW d0 d1 d2 b) && !anyB (cabsW d0 d1 d2 a s0 s1 s2) (cabsW d0 d1 d2 b t0 t1 t2)
theorem any_sym {n : Int} {p q : Nat → Bool} : anyB (setOf n p) (setOf n q) = anyB (setOf n q) (setOf n p) := by
  rw [Bool.eq_iff_iff, setOf_any, setOf_any]
  exact ⟨fun ⟨j, h, a, b⟩ => ⟨j, h, b, a⟩, fun ⟨j, h, a, b⟩ => ⟨j, h, b, a⟩⟩
theorem apart_sym (d0 d1 d2 : Int) (a : Bx) (s0 s1 s2 : Bool) (b : Bx) (t0 t1 t2 : Bool) : apartB d0 d1 d2 a s0 s1 s2 b t0 t1 t2 = apartB d0 d1 d2 b t0 t1 t2 a s0 s1 s2 := by
  unfold apartB midW cabsW
  rw [any_sym, any_sym (n := 3 * (d0 * d1 * d2))]
theorem mids_meet {d0 d1 d2 : Int} {a b : Bx} (h : mayD d0 d1 d2) (ha : mayB d0 d1 d2 a) (hb : mayB d0 d1 d2 b) : anyB (midW d0 d1 d2 a) (midW d0 d1 d2 b) = meetB d0 d1 d2 a b := by
  unfold midW
  rw [Bool.eq_iff_iff, setOf_any, meetB_iff h ha hb]
  constructor
  · rintro ⟨j, hj, x, y⟩; exact ⟨(j : Int), by omega, x, y⟩
  · rintro ⟨m, hm, x, y⟩
    refine ⟨m.toNat, by omega, ?_, ?_⟩ <;> rw [Int.toNat_of_nonneg hm.1] <;> assumption
theorem apart_meet {d0 d1 d2 : Int} {a b : Bx} {s0 s1 s2 t0 t1 t2 : Bool} (h : mayD d0 d1 d2) (ha : mayB d0 d1 d2 a) (hb : mayB d0 d1 d2 b) : (!meetB d0 d1 d2 a b || !apartB d0 d1 d2 a s0 s1 s2 b t0 t1 t2) = true := by
  unfold apartB
  rw [mids_meet h ha hb]
  cases meetB d0 d1 d2 a b <;> simp
theorem apart_self {d0 d1 d2 : Int} {a : Bx} {s0 s1 s2 : Bool} (h : mayD d0 d1 d2) (ha : mayB d0 d1 d2 a) : apartB d0 d1 d2 a s0 s1 s2 a s0 s1 s2 = false := by
  have : meetB d0 d1 d2 a a = true := (meetB_iff h ha ha).2 ⟨baseN d0 d1 a, (base_node h ha).1, base_has h ha, base_has h ha⟩
  unfold apartB
  rw [mids_meet h ha ha, this]
  rfl
theorem apart_mesh {d0 d1 d2 : Int} {a b : Bx} (h : mayD d0 d1 d2) (ha : mayB d0 d1 d2 a) (hb : mayB d0 d1 d2 b) : apartB d0 d1 d2 a false false false b false false false = !meetB d0 d1 d2 a b := by
  unfold apartB
  rw [mids_meet h ha hb]
  cases hm : meetB d0 d1 d2 a b
  · cases hc : anyB (cabsW d0 d1 d2 a false false false) (cabsW d0 d1 d2 b false false false)
    · rfl
    · unfold cabsW at hc
      obtain ⟨j, hj, x, y⟩ := setOf_any.1 hc
      obtain ⟨k, o, ho, e⟩ := cab_of h (link := (j : Int)) (by omega)
      rw [e, cabB_at ho k] at x y
      have := mesh_apart h ha hb ho k x y
      rw [hm] at this
      cases this
  · simp

end Go.Proofs.YtbedhpooeabehaaGreatDoor

/-
  place.midSet, place.linkSet, place.endSet, place.Sets, place.meet, place.Apart, place.Passes: what each call answers; nothing that lay before is turned.
-/
namespace Go.Proofs.YtbedhpooeabehaaGreatDoor
open Go Go.RowKit Go.Shelf

attribute [local go_sem] Oper.semAt_some ext_const

theorem ofErr_ok {n : Int} {l : List Int} (h : ofOk n l = true) : ofErr n l = 0 := by simp [ofErr, h]
theorem errP_ok {d0 d1 d2 : Int} {b : Bx} {t0 t1 t2 : Bool} (hm : mayD d0 d1 d2) (hp : mayP d0 d1 d2 b t0 t1 t2) : errP d0 d1 d2 b t0 t1 t2 = 0 := by
  rcases errP_cases d0 d1 d2 b t0 t1 t2 with ⟨_, _, h⟩ | ⟨_, h⟩
  · exact h
  · exact absurd ⟨hm, hp⟩ h
/-- set.Of, of numbers that tell a known set. -/
theorem of_set {n : Int} {l : List Int} {S : List Nat} {v : Value} {base : Nat} (w : World) (hv : Lst w base v l) (hl : l.length ≤ 65536) (hok : ofOk n l = true) (hS : ∀ ws, OfIs n l ws → ws = S) :
    Calls Tryz.prog 49 #[I n, v] w fun e W' => ∃ u, e = .returned (.tuple #[u, I 0]) ∧ SetR W' w.heap.size u S ∧ Below w.heap.size w W' := by
  refine (of_calls w hv.its hl n).mono ?_
  rintro e w1 ⟨u, ws, rfl, hu, ho, hB⟩
  rw [ofErr_ok hok, ← hS ws ho]
  exact ⟨u, rfl, hu, hB⟩

set_option maxRecDepth 100000 in
set_option maxHeartbeats 4000000 in
theorem midSet_calls {d0 d1 d2 : Int} {b : Bx} (t0 t1 t2 : Bool) (w : World) (hm : mayD d0 d1 d2) (hb : mayB d0 d1 d2 b) :
    Calls Tryz.prog 31 #[A3 d0 d1 d2, P9 b t0 t1 t2] w fun e W' => ∃ u, e = .returned (.tuple #[u, I 0]) ∧ SetR W' w.heap.size u (midW d0 d1 d2 b) ∧ Below w.heap.size w W' := by
  have HN : Hid (∀ w, Calls Tryz.prog 20 #[A3 d0 d1 d2] w fun e W' => e = .returned (.tuple #[I (d0 * d1 * d2), I 0]) ∧ Below w.heap.size w W') := fun w => many_yes w hm
  have HB : Hid (∀ w, Calls Tryz.prog 48 #[A3 d0 d1 d2, B6 b] w fun e W' => ∃ v, e = .returned (.tuple #[v, I 0]) ∧ Lst W' w.heap.size v (nodesB d0 d1 d2 b) ∧ Below w.heap.size w W') := fun w => bnodes_ok w hm hb
  have HO : Hid (∀ w v base, Lst w base v (nodesB d0 d1 d2 b) → Calls Tryz.prog 49 #[I (d0 * d1 * d2), v] w fun e W' => ∃ u, e = .returned (.tuple #[u, I 0]) ∧ SetR W' w.heap.size u (midW d0 d1 d2 b) ∧ Below w.heap.size w W') :=
    fun w v base hv => of_set w hv (by have := nodesB_len hm b; omega) (nodes_ok hm b) (fun ws ho => mid_of hm ho)
  clear hm hb
  generalize nodesB d0 d1 d2 b = X at *
  generalize midW d0 d1 d2 b = S at *
  generalize d0 * d1 * d2 = N at *
  go_enter Tryz.func31, Tryz.ntmps31
  go_wp2_with fail
  obtain ⟨W, hW, hB0, b0, b1⟩ := two_start w #[I d0, I d1, I d2] (C9 b t0 t1 t2) 23 30
  rw [hW]
  clear hW
  refine (HN.out _).mono ?_
  rintro e w1 ⟨rfl, hT⟩
  obtain ⟨c0, c1, c2, hz⟩ := b0.three hT
  obtain ⟨⟨x0, x1, x2⟩, ⟨x3, x4, x5⟩, _, hz1⟩ := b1.nine hT
  have hB := then_below hB0 hT
  clear hT b0 b1 hB0
  go_wp2_with fail
  refine (HB.out _).mono ?_
  rintro e w2 ⟨v, rfl, hv, hT⟩
  have hB := then_below hB hT
  clear hT c0 c1 c2 hz x0 x1 x2 x3 x4 x5 hz1
  go_wp2_with fail
  refine (HO.out _ _ _ hv).mono ?_
  rintro e w3 ⟨u, rfl, hu, hT⟩
  go_wp2
  go_ret2
  exact ⟨_, rfl, hu.weak hB.size, then_below hB hT⟩

set_option maxRecDepth 100000 in
set_option maxHeartbeats 4000000 in
theorem linkSet_calls {d0 d1 d2 : Int} {b : Bx} {t0 t1 t2 : Bool} (w : World) (hm : mayD d0 d1 d2) (hp : mayP d0 d1 d2 b t0 t1 t2) :
    Calls Tryz.prog 32 #[A3 d0 d1 d2, P9 b t0 t1 t2] w fun e W' => ∃ u, e = .returned (.tuple #[u, I 0]) ∧ SetR W' w.heap.size u (cabsW d0 d1 d2 b t0 t1 t2) ∧ Below w.heap.size w W' := by
  have HN : Hid (∀ w, Calls Tryz.prog 50 #[A3 d0 d1 d2] w fun e W' => e = .returned (.tuple #[I (3 * (d0 * d1 * d2)), I 0]) ∧ Below w.heap.size w W') := fun w => wmany_yes w hm
  have HB : Hid (∀ w, Calls Tryz.prog 51 #[A3 d0 d1 d2, P9 b t0 t1 t2] w fun e W' => ∃ v, e = .returned (.tuple #[v, I 0]) ∧ Lst W' w.heap.size v (cabsL d0 d1 d2 b t0 t1 t2) ∧ Below w.heap.size w W') := fun w => cables_calls w hm hp
  have HO : Hid (∀ w v base, Lst w base v (cabsL d0 d1 d2 b t0 t1 t2) → Calls Tryz.prog 49 #[I (3 * (d0 * d1 * d2)), v] w fun e W' => ∃ u, e = .returned (.tuple #[u, I 0]) ∧ SetR W' w.heap.size u (cabsW d0 d1 d2 b t0 t1 t2) ∧ Below w.heap.size w W') :=
    fun w v base hv => of_set w hv (by have := cabsL_len hm hp; omega) (cabs_ok hm hp) (fun ws ho => cabs_of hm hp ho)
  clear hm hp
  generalize cabsL d0 d1 d2 b t0 t1 t2 = X at *
  generalize cabsW d0 d1 d2 b t0 t1 t2 = S at *
  generalize 3 * (d0 * d1 * d2) = N at *
  go_enter Tryz.func32, Tryz.ntmps32
  go_wp2_with fail
  obtain ⟨W, hW, hB0, b0, b1⟩ := two_start w #[I d0, I d1, I d2] (C9 b t0 t1 t2) 23 30
  rw [hW]
  clear hW
  refine (HN.out _).mono ?_
  rintro e w1 ⟨rfl, hT⟩
  obtain ⟨c0, c1, c2, hz⟩ := b0.three hT
  obtain ⟨⟨x0, x1, x2⟩, ⟨x3, x4, x5⟩, ⟨x6, x7, x8⟩, hz1⟩ := b1.nine hT
  have hB := then_below hB0 hT
  clear hT b0 b1 hB0
  go_wp2_with fail
  refine (HB.out _).mono ?_
  rintro e w2 ⟨v, rfl, hv, hT⟩
  have hB := then_below hB hT
  clear hT c0 c1 c2 hz x0 x1 x2 x3 x4 x5 x6 x7 x8 hz1
  go_wp2_with fail
  refine (HO.out _ _ _ hv).mono ?_
  rintro e w3 ⟨u, rfl, hu, hT⟩
  go_wp2
  go_ret2
  exact ⟨_, rfl, hu.weak hB.size, then_below hB hT⟩

set_option maxRecDepth 100000 in
set_option maxHeartbeats 4000000 in
theorem sets_err {d0 d1 d2 : Int} {b : Bx} (t0 t1 t2 : Bool) (w : World) (he : (errP d0 d1 d2 b t0 t1 t2 != 0) = true) :
    Calls Tryz.prog 15 #[A3 d0 d1 d2, P9 b t0 t1 t2] w fun e W' => e = .returned (.tuple #[.slice none 0 0, .slice none 0 0, I (errP d0 d1 d2 b t0 t1 t2)]) ∧ Below w.heap.size w W' := by
  have HC : Hid (∀ w, Calls Tryz.prog 30 #[A3 d0 d1 d2, P9 b t0 t1 t2] w fun e W' => e = .returned (I (errP d0 d1 d2 b t0 t1 t2)) ∧ Below w.heap.size w W') := fun w => pcheck_calls d0 d1 d2 b t0 t1 t2 w
  generalize errP d0 d1 d2 b t0 t1 t2 = er at *
  go_enter Tryz.func15, Tryz.ntmps15
  go_wp2_with fail
  obtain ⟨W, hW, hB0, b0, b1⟩ := two_start w #[I d0, I d1, I d2] (C9 b t0 t1 t2) 23 30
  rw [hW]
  clear hW
  refine (HC.out _).mono ?_
  rintro e w1 ⟨rfl, hT⟩
  go_wp2
  exact bodyPost_ret (results_tmp3 rfl _ _ _) rfl ⟨rfl, then_below hB0 hT⟩

set_option maxRecDepth 100000 in
set_option maxHeartbeats 4000000 in
theorem sets_ok {d0 d1 d2 : Int} {b : Bx} {t0 t1 t2 : Bool} (w : World) (hm : mayD d0 d1 d2) (hp : mayP d0 d1 d2 b t0 t1 t2) :
    Calls Tryz.prog 15 #[A3 d0 d1 d2, P9 b t0 t1 t2] w fun e W' => ∃ u v, e = .returned (.tuple #[u, v, I 0]) ∧ SetR W' w.heap.size u (midW d0 d1 d2 b) ∧ SetR W' w.heap.size v (cabsW d0 d1 d2 b t0 t1 t2) ∧ Below w.heap.size w W' := by
  have HC : Hid (∀ w, Calls Tryz.prog 30 #[A3 d0 d1 d2, P9 b t0 t1 t2] w fun e W' => e = .returned (I 0) ∧ Below w.heap.size w W') := fun w => by have := pcheck_calls d0 d1 d2 b t0 t1 t2 w; rwa [errP_ok hm hp] at this
  have HA : Hid (∀ w, Calls Tryz.prog 31 #[A3 d0 d1 d2, P9 b t0 t1 t2] w fun e W' => ∃ u, e = .returned (.tuple #[u, I 0]) ∧ SetR W' w.heap.size u (midW d0 d1 d2 b) ∧ Below w.heap.size w W') := fun w => midSet_calls t0 t1 t2 w hm hp.1
  have HB : Hid (∀ w, Calls Tryz.prog 32 #[A3 d0 d1 d2, P9 b t0 t1 t2] w fun e W' => ∃ u, e = .returned (.tuple #[u, I 0]) ∧ SetR W' w.heap.size u (cabsW d0 d1 d2 b t0 t1 t2) ∧ Below w.heap.size w W') := fun w => linkSet_calls w hm hp
  clear hm hp
  generalize midW d0 d1 d2 b = S at *
  generalize cabsW d0 d1 d2 b t0 t1 t2 = S' at *
  go_enter Tryz.func15, Tryz.ntmps15
  go_wp2_with fail
  obtain ⟨W, hW, hB0, b0, b1⟩ := two_start w #[I d0, I d1, I d2] (C9 b t0 t1 t2) 23 30
  rw [hW]
  clear hW
  refine (HC.out _).mono ?_
  rintro e w1 ⟨rfl, hT⟩
  obtain ⟨c0, c1, c2, hz⟩ := b0.three hT
  obtain ⟨⟨x0, x1, x2⟩, ⟨x3, x4, x5⟩, ⟨x6, x7, x8⟩, hz1⟩ := b1.nine hT
  go_wp2_with fail
  refine (HA.out _).mono ?_
  rintro e w2 ⟨u, rfl, hu, hT2⟩
  have hu := hu.weak (then_below hB0 hT).size
  have hT := then_below hT hT2
  clear hT2 c0 c1 c2 hz x0 x1 x2 x3 x4 x5 x6 x7 x8 hz1
  obtain ⟨c0, c1, c2, hz⟩ := b0.three hT
  obtain ⟨⟨x0, x1, x2⟩, ⟨x3, x4, x5⟩, ⟨x6, x7, x8⟩, hz1⟩ := b1.nine hT
  go_wp2_with fail
  refine (HB.out _).mono ?_
  rintro e w3 ⟨v, rfl, hv, hT3⟩
  have hB := then_below hB0 hT
  have hv := hv.weak hB.size
  have hu := hu.later hT3
  go_wp2
  refine bodyPost_ret (results_tmp3 rfl _ _ _) rfl ?_
  exact ⟨_, _, rfl, hu, hv, then_below hB hT3⟩

end Go.Proofs.YtbedhpooeabehaaGreatDoor

/-
  score.Open, Of and Spread, for every input.
-/
namespace Go.Proofs.YtbedhpooeabehaaGreatDoor
open Go Go.RowKit Go.Shelf

/-- What the three give. -/
def opV (d0 d1 d2 : Int) (a b : List Nat) : Int := if errK d0 d1 d2 [a, b] = 0 then openS d0 d1 d2 (inN a) (inN b) else 0
def spV (d0 d1 d2 : Int) (a : List Nat) : Int := if errK d0 d1 d2 [a] = 0 then spreadS d0 d1 d2 (inN a) else 0
def ofE (d0 d1 d2 : Int) (b : Bx) (t0 t1 t2 : Bool) (a : List Nat) : Int := if errK d0 d1 d2 [a] = 0 then errP d0 d1 d2 b t0 t1 t2 else 8
/-- How many cables a place takes. -/
def cabN (d0 d1 d2 : Int) (b : Bx) (t0 t1 t2 : Bool) : Nat := manyR (3 * (d0 * d1 * d2)) (cabsW d0 d1 d2 b t0 t1 t2)
def ofV (d0 d1 d2 : Int) (b : Bx) (t0 t1 t2 : Bool) (a : List Nat) : Int := if ofE d0 d1 d2 b t0 t1 t2 a = 0 then scoreS d0 d1 d2 (inN (midW d0 d1 d2 b)) (inN a) (cabN d0 d1 d2 b t0 t1 t2) else 0
theorem any_score (own mids : List Nat) : (fun m => !anyN [own, mids] m) = fun m => !inN mids m && !inN own m := by
  rw [anyN_two]
  funext m
  dsimp only
  cases inN own m <;> cases inN mids m <;> rfl
theorem sum_one {d0 d1 d2 : Int} {a b : List Nat} (h : mayD d0 d1 d2) (he : errAll (d0 * d1 * d2) [a] = 0) : (sumL d0 d1 d2 (anyN [b]) (listR (d0 * d1 * d2) a) : Int) = openS d0 d1 d2 (inN a) (inN b) := by
  rw [sum_open h he, anyN_one]
theorem sum_none {d0 d1 d2 : Int} {a : List Nat} (h : mayD d0 d1 d2) (he : errAll (d0 * d1 * d2) [a] = 0) : (sumL d0 d1 d2 (fun m => !anyN [a] m) (listR (d0 * d1 * d2) a) : Int) = spreadS d0 d1 d2 (inN a) := by
  rw [sum_open h he, anyN_one, spreadS, open_sym h]
theorem sum_both {d0 d1 d2 : Int} {own mids : List Nat} (h : mayD d0 d1 d2) (he : errAll (d0 * d1 * d2) [own] = 0) : (sumL d0 d1 d2 (fun m => !anyN [own, mids] m) (listR (d0 * d1 * d2) own) : Int) = openS d0 d1 d2 (inN own) (fun m => !inN mids m && !inN own m) := by
  rw [sum_open h he, any_score]
theorem cabN_bd {d0 d1 d2 : Int} (h : mayD d0 d1 d2) (b : Bx) (t0 t1 t2 : Bool) : cabN d0 d1 d2 b t0 t1 t2 ≤ 12288 := by
  have hN := N_bd h
  unfold cabN cabsW
  rw [manyR_in (setOf_err (by omega) (by omega) _)]
  refine Nat.le_trans (manyS_le _) ?_
  rw [setOf_len]
  omega
theorem midW_err {d0 d1 d2 : Int} (h : mayD d0 d1 d2) (b : Bx) : errAll (d0 * d1 * d2) [midW d0 d1 d2 b] = 0 := by
  have hN := N_bd h
  exact setOf_err (by omega) (by omega) _
theorem cabsW_err {d0 d1 d2 : Int} (h : mayD d0 d1 d2) (b : Bx) (t0 t1 t2 : Bool) : errAll (3 * (d0 * d1 * d2)) [cabsW d0 d1 d2 b t0 t1 t2] = 0 := by
  have hN := N_bd h
  exact setOf_err (by omega) (by omega) _

/-- The two helpers where sets lie in a block that was just laid. -/
theorem schk_one {W w : World} {g : Nat} {u : Value} {a : List Nat} (d0 d1 d2 : Int) (hW : Below w.heap.size w W) (hB : Blk W g 25 #[u]) (ha : Wds w u a) :
    Calls Tryz.prog 10 #[A3 d0 d1 d2, .slice (some ⟨g, 0, none⟩) 1 1] W fun e W' => e = .returned (.tuple #[I (numK d0 d1 d2 [a]), I (errK d0 d1 d2 [a])]) ∧ Below W.heap.size W W' := by
  refine schk_calls (vs := [u]) d0 d1 d2 W (Sl.blk (vs := [u]) hB 1) rfl (by simp) fun i hi => ?_
  match i, hi with
  | 0, _ => exact ha.later hW
theorem schk_two {W w : World} {g : Nat} {u v : Value} {a b : List Nat} (d0 d1 d2 : Int) (hW : Below w.heap.size w W) (hB : Blk W g 25 #[u, v]) (ha : Wds w u a) (hb : Wds w v b) :
    Calls Tryz.prog 10 #[A3 d0 d1 d2, .slice (some ⟨g, 0, none⟩) 2 2] W fun e W' => e = .returned (.tuple #[I (numK d0 d1 d2 [a, b]), I (errK d0 d1 d2 [a, b])]) ∧ Below W.heap.size W W' := by
  refine schk_calls (vs := [u, v]) d0 d1 d2 W (Sl.blk (vs := [u, v]) hB 2) rfl (by simp) fun i hi => ?_
  match i, hi with
  | 0, _ => exact ha.later hW
  | 1, _ => exact hb.later hW
theorem count_one {W w : World} {g : Nat} {s u : Value} {c a : List Nat} {d0 d1 d2 : Int} (hTab : TabOk w) (hd : mayD d0 d1 d2) (hW : Below w.heap.size w W) (hB : Blk W g 25 #[u]) (hs : Wds w s c) (hc : errAll (d0 * d1 * d2) [c] = 0) (ha : Wds w u a) (hea : errAll (d0 * d1 * d2) [a] = 0) :
    Calls Tryz.prog 11 #[A3 d0 d1 d2, I (d0 * d1 * d2), s, .slice (some ⟨g, 0, none⟩) 1 1] W fun e W' => e = .returned (.tuple #[I (sumL d0 d1 d2 (anyN [a]) (listR (d0 * d1 * d2) c)), I (sumL d0 d1 d2 (fun m => !anyN [a] m) (listR (d0 * d1 * d2) c)), I 0]) ∧ Below W.heap.size W W' := by
  refine count_calls (vs := [u]) W (hTab.below hW hTab.lt) hd (hs.later hW) hc (Sl.blk (vs := [u]) hB 1) rfl (by simp) (fun i hi => ?_) (fun i hi => ?_)
  all_goals match i, hi with
  | 0, _ => first | exact ha.later hW | exact hea
theorem count_two {W w : World} {g : Nat} {s u v : Value} {c a b : List Nat} {d0 d1 d2 : Int} (hTab : TabOk w) (hd : mayD d0 d1 d2) (hW : Below w.heap.size w W) (hB : Blk W g 25 #[u, v]) (hs : Wds w s c) (hc : errAll (d0 * d1 * d2) [c] = 0) (ha : Wds w u a) (hea : errAll (d0 * d1 * d2) [a] = 0) (hb : Wds w v b) (heb : errAll (d0 * d1 * d2) [b] = 0) :
    Calls Tryz.prog 11 #[A3 d0 d1 d2, I (d0 * d1 * d2), s, .slice (some ⟨g, 0, none⟩) 2 2] W fun e W' => e = .returned (.tuple #[I (sumL d0 d1 d2 (anyN [a, b]) (listR (d0 * d1 * d2) c)), I (sumL d0 d1 d2 (fun m => !anyN [a, b] m) (listR (d0 * d1 * d2) c)), I 0]) ∧ Below W.heap.size W W' := by
  refine count_calls (vs := [u, v]) W (hTab.below hW hTab.lt) hd (hs.later hW) hc (Sl.blk (vs := [u, v]) hB 2) rfl (by simp) (fun i hi => ?_) (fun i hi => ?_)
  all_goals match i, hi with
  | 0, _ => first | exact ha.later hW | exact hea
  | 1, _ => first | exact hb.later hW | exact heb

set_option maxRecDepth 100000 in
set_option maxHeartbeats 2000000 in
theorem sopen_calls {va vb : Value} {a b : List Nat} (d0 d1 d2 : Int) (w : World) (hTab : TabOk w) (ha : Wds w va a) (hb : Wds w vb b) :
    Calls Tryz.prog 4 #[A3 d0 d1 d2, va, vb] w fun e W' => e = .returned (.tuple #[I (opV d0 d1 d2 a b), I (errK d0 d1 d2 [a, b])]) ∧ Below w.heap.size w W' := by
  have HC : Hid (∀ (W : World) (g : Nat), Below w.heap.size w W → Blk W g 25 #[va, vb] → Calls Tryz.prog 10 #[A3 d0 d1 d2, .slice (some ⟨g, 0, none⟩) 2 2] W fun e W' => e = .returned (.tuple #[I (numK d0 d1 d2 [a, b]), I (errK d0 d1 d2 [a, b])]) ∧ Below W.heap.size W W') := fun W g hW hB => schk_two d0 d1 d2 hW hB ha hb
  obtain ⟨ao, ca, ea, _⟩ := ha.view
  obtain ⟨bo, cb, eb, _⟩ := hb.view
  have hB0 : Below w.heap.size w ((w.alloc (.cells #[I d0, I d1, I d2] 23)).alloc (.cells #[va, vb] 25)) := ((Below.refl _ w).alloc (Nat.le_refl _) _).alloc (by simp) _
  have kd := (Blk.new w 23 #[I d0, I d1, I d2]).alloc (.cells #[va, vb] 25)
  have ks : Blk ((w.alloc (.cells #[I d0, I d1, I d2] 23)).alloc (.cells #[va, vb] 25)) (w.heap.size + 1) 25 #[va, vb] := by
    have := Blk.new (w.alloc (.cells #[I d0, I d1, I d2] 23)) 25 #[va, vb]
    simpa using this
  by_cases h0 : errK d0 d1 d2 [a, b] = 0
  · obtain ⟨hd, hall⟩ := errK_zero h0
    have e1 := hall a (by simp)
    have e2 := hall b (by simp)
    have HN : Hid (∀ (W : World) (g : Nat), Below w.heap.size w W → Blk W g 25 #[vb] → Calls Tryz.prog 11 #[A3 d0 d1 d2, I (d0 * d1 * d2), va, .slice (some ⟨g, 0, none⟩) 1 1] W fun e W' => e = .returned (.tuple #[I (openS d0 d1 d2 (inN a) (inN b)), I (sumL d0 d1 d2 (fun m => !anyN [b] m) (listR (d0 * d1 * d2) a)), I 0]) ∧ Below W.heap.size W W') := fun W g hW hB => by
      have := count_one hTab hd hW hB ha e1 hb e2
      rw [sum_one hd e1] at this
      exact this
    rw [opV, if_pos h0, h0]
    rw [numK, if_pos h0, h0] at HC
    clear h0 hall e1 e2 hd ha hb hTab
    generalize openS d0 d1 d2 (inN a) (inN b) = r at *
    generalize sumL d0 d1 d2 (fun m => !anyN [b] m) (listR (d0 * d1 * d2) a) = r2 at *
    generalize d0 * d1 * d2 = N at *
    subst ea eb
    generalize a.length = na at *
    generalize b.length = nb at *
    have HK : Hid (Blk _ (w.heap.size + 1) _ _) := ks
    have HD : Hid (Blk _ w.heap.size _ _) := kd
    clear ks kd
    go_enter Tryz.func4, Tryz.ntmps4
    go_wp2_with fail
    refine (HC.out _ _ hB0 HK.out).mono ?_
    rintro e w1 ⟨rfl, hB1⟩
    have kd1 := HD.out.later hB1
    have hT := then_below hB0 hB1
    clear HC hB0 hB1 HK HD
    obtain ⟨e0, e1, e2, hez⟩ := kd1.three (Below.refl _ _)
    have hB2 : Below w.heap.size w (w1.alloc (.cells #[.slice bo nb cb] 25)) := then_alloc hT _
    have k2 := Blk.new w1 25 #[.slice bo nb cb]
    go_wp2_with fail
    refine (HN.out _ _ hB2 k2).mono ?_
    rintro e w2 ⟨rfl, hB3⟩
    have hT2 := then_below hB2 hB3
    clear HN hB2 k2 hB3 kd1 e0 e1 e2 hez hT
    go_wp2
    go_ret2
    exact ⟨rfl, hT2⟩
  · have h8 : errK d0 d1 d2 [a, b] = 8 := (errK_cases _ _ _ _).resolve_left h0
    rw [opV, if_neg h0, h8]
    rw [numK, if_neg h0, h8] at HC
    clear h0 h8 ha hb hTab kd
    subst ea eb
    generalize a.length = na at *
    generalize b.length = nb at *
    have HK : Hid (Blk _ (w.heap.size + 1) _ _) := ks
    clear ks
    go_enter Tryz.func4, Tryz.ntmps4
    go_wp2_with fail
    refine (HC.out _ _ hB0 HK.out).mono ?_
    rintro e w1 ⟨rfl, hB1⟩
    have hT := then_below hB0 hB1
    clear HC hB0 hB1 HK
    go_wp2
    go_ret2
    exact ⟨rfl, hT⟩

set_option maxRecDepth 100000 in
set_option maxHeartbeats 2000000 in
theorem spread_calls {va : Value} {a : List Nat} (d0 d1 d2 : Int) (w : World) (hTab : TabOk w) (ha : Wds w va a) :
    Calls Tryz.prog 8 #[A3 d0 d1 d2, va] w fun e W' => e = .returned (.tuple #[I (spV d0 d1 d2 a), I (errK d0 d1 d2 [a])]) ∧ Below w.heap.size w W' := by
  have HC : Hid (∀ (W : World) (g : Nat), Below w.heap.size w W → Blk W g 25 #[va] → Calls Tryz.prog 10 #[A3 d0 d1 d2, .slice (some ⟨g, 0, none⟩) 1 1] W fun e W' => e = .returned (.tuple #[I (numK d0 d1 d2 [a]), I (errK d0 d1 d2 [a])]) ∧ Below W.heap.size W W') := fun W g hW hB => schk_one d0 d1 d2 hW hB ha
  obtain ⟨ao, ca, ea, _⟩ := ha.view
  have hB0 : Below w.heap.size w ((w.alloc (.cells #[I d0, I d1, I d2] 23)).alloc (.cells #[va] 25)) := ((Below.refl _ w).alloc (Nat.le_refl _) _).alloc (by simp) _
  have kd := (Blk.new w 23 #[I d0, I d1, I d2]).alloc (.cells #[va] 25)
  have ks : Blk ((w.alloc (.cells #[I d0, I d1, I d2] 23)).alloc (.cells #[va] 25)) (w.heap.size + 1) 25 #[va] := by
    have := Blk.new (w.alloc (.cells #[I d0, I d1, I d2] 23)) 25 #[va]
    simpa using this
  by_cases h0 : errK d0 d1 d2 [a] = 0
  · obtain ⟨hd, hall⟩ := errK_zero h0
    have e1 := hall a (by simp)
    have HN : Hid (∀ (W : World) (g : Nat), Below w.heap.size w W → Blk W g 25 #[va] → Calls Tryz.prog 11 #[A3 d0 d1 d2, I (d0 * d1 * d2), va, .slice (some ⟨g, 0, none⟩) 1 1] W fun e W' => e = .returned (.tuple #[I (sumL d0 d1 d2 (anyN [a]) (listR (d0 * d1 * d2) a)), I (spreadS d0 d1 d2 (inN a)), I 0]) ∧ Below W.heap.size W W') := fun W g hW hB => by
      have := count_one hTab hd hW hB ha e1 ha e1
      rw [sum_none hd e1] at this
      exact this
    rw [spV, if_pos h0, h0]
    rw [numK, if_pos h0, h0] at HC
    clear h0 hall e1 hd ha hTab
    generalize spreadS d0 d1 d2 (inN a) = r at *
    generalize sumL d0 d1 d2 (anyN [a]) (listR (d0 * d1 * d2) a) = r2 at *
    generalize d0 * d1 * d2 = N at *
    subst ea
    generalize a.length = na at *
    have HK : Hid (Blk _ (w.heap.size + 1) _ _) := ks
    have HD : Hid (Blk _ w.heap.size _ _) := kd
    clear ks kd
    go_enter Tryz.func8, Tryz.ntmps8
    go_wp2_with fail
    refine (HC.out _ _ hB0 HK.out).mono ?_
    rintro e w1 ⟨rfl, hB1⟩
    have kd1 := HD.out.later hB1
    have hT := then_below hB0 hB1
    clear HC hB0 hB1 HK HD
    obtain ⟨e0, e1, e2, hez⟩ := kd1.three (Below.refl _ _)
    have hB2 : Below w.heap.size w (w1.alloc (.cells #[.slice ao na ca] 25)) := then_alloc hT _
    have k2 := Blk.new w1 25 #[.slice ao na ca]
    go_wp2_with fail
    refine (HN.out _ _ hB2 k2).mono ?_
    rintro e w2 ⟨rfl, hB3⟩
    have hT2 := then_below hB2 hB3
    clear HN hB2 k2 hB3 kd1 e0 e1 e2 hez hT
    go_wp2
    go_ret2
    exact ⟨rfl, hT2⟩
  · have h8 : errK d0 d1 d2 [a] = 8 := (errK_cases _ _ _ _).resolve_left h0
    rw [spV, if_neg h0, h8]
    rw [numK, if_neg h0, h8] at HC
    clear h0 h8 ha hTab kd
    subst ea
    generalize a.length = na at *
    have HK : Hid (Blk _ (w.heap.size + 1) _ _) := ks
    clear ks
    go_enter Tryz.func8, Tryz.ntmps8
    go_wp2_with fail
    refine (HC.out _ _ hB0 HK.out).mono ?_
    rintro e w1 ⟨rfl, hB1⟩
    have hT := then_below hB0 hB1
    clear HC hB0 hB1 HK
    go_wp2
    go_ret2
    exact ⟨rfl, hT⟩

end Go.Proofs.YtbedhpooeabehaaGreatDoor

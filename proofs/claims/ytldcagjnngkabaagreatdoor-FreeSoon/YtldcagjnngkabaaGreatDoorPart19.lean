/-
  Plain arithmetic of places: which cables a box takes along an axis, as the midplanes of another box; how many there are; where they end. No program is named here.
-/
import Derived.Test.YtldcagjnngkabaaGreatDoorPart18
import Derived.Test.YtldcagjnngkabaaGreatDoorPart17
import Derived.Test.YtldcagjnngkabaaGreatDoorPart9
import Derived.Test.YtldcagjnngkabaaGreatDoorPart12
namespace Go.Proofs.YtldcagjnngkabaaGreatDoor
open Go.RowKit

/-- A midplane's coordinate along an axis. -/
def coK (d0 d1 m : Int) (k : Fin 3) : Int := dimAt (cx d0 m) (cy d0 d1 m) (cz d0 d1 m) k
theorem co_bd {d0 d1 d2 m : Int} (h : mayD d0 d1 d2) (hm : 0 ≤ m ∧ m < d0 * d1 * d2) (k : Fin 3) : 0 ≤ coK d0 d1 m k ∧ coK d0 d1 m k < dimAt d0 d1 d2 k := by
  obtain ⟨a, b, c⟩ := inD_of_node h hm
  rcases fin3 k with rfl | rfl | rfl
  · exact a
  · exact b
  · exact c
theorem co_ext {d0 d1 m n : Int} (h : ∀ k, coK d0 d1 m k = coK d0 d1 n k) : m = n := node_ext (d0 := d0) (d1 := d1) (h 0) (h 1) (h 2)
theorem co_on {d0 d1 d2 m : Int} (h : mayD d0 d1 d2) (hm : 0 ≤ m ∧ m < d0 * d1 * d2) (k : Fin 3) (n : Int) (j : Fin 3) :
    coK d0 d1 (onD d0 d1 d2 m k n) j = if j = k then (coK d0 d1 m k + n) % dimAt d0 d1 d2 k else coK d0 d1 m j := by
  obtain ⟨_, x, y, z⟩ := on_coords h hm k n
  rcases fin3 k with rfl | rfl | rfl <;> rcases fin3 j with rfl | rfl | rfl <;> simp_all [coK, dimAt]
theorem hasB_iff {d0 d1 d2 m : Int} {b : Bx} : hasB d0 d1 d2 b m = true ↔ ∀ k, hasS (dimAt d0 d1 d2 k) (bAt b k) (sAt b k) (coK d0 d1 m k) = true := by
  simp only [hasB, Bool.and_eq_true]
  constructor
  · rintro ⟨⟨a, b⟩, c⟩ k
    rcases fin3 k with rfl | rfl | rfl
    · exact a
    · exact b
    · exact c
  · intro h
    exact ⟨⟨h 0, h 1⟩, h 2⟩

theorem hasS_iff0 {r b s k : Int} (hs : 0 ≤ s ∧ s ≤ r) (hb : 0 ≤ b ∧ b < r) (hk : 0 ≤ k ∧ k < r) : hasS r b s k = true ↔ ∃ j, 0 ≤ j ∧ j < s ∧ (b + j) % r = k := by
  simp only [hasS, decide_eq_true_eq]
  constructor
  · intro ha
    refine ⟨aft r b k, (aft_bd hb hk).1, ha, ?_⟩
    rw [on_rem hb (aft_bd hb hk)]
    unfold aft
    split <;> split <;> omega
  · rintro ⟨j, j0, j1, hj⟩
    rw [on_rem hb ⟨j0, by omega⟩] at hj
    unfold aft
    split at hj <;> split <;> omega

/-- The box with another size along an axis. -/
def upB (b : Bx) (z : Int) (k : Fin 3) : Bx := match k with | 0 => ⟨b.x, b.y, b.z, z, b.b, b.c⟩ | 1 => ⟨b.x, b.y, b.z, b.a, z, b.c⟩ | 2 => ⟨b.x, b.y, b.z, b.a, b.b, z⟩
theorem upB_b (b : Bx) (z : Int) (k j : Fin 3) : bAt (upB b z k) j = bAt b j := by
  rcases fin3 k with rfl | rfl | rfl <;> rcases fin3 j with rfl | rfl | rfl <;> rfl
theorem upB_s (b : Bx) (z : Int) (k j : Fin 3) : sAt (upB b z k) j = if j = k then z else sAt b j := by
  rcases fin3 k with rfl | rfl | rfl <;> rcases fin3 j with rfl | rfl | rfl <;> rfl
theorem upB_has {d0 d1 d2 m : Int} {b : Bx} {z : Int} {k : Fin 3} : hasB d0 d1 d2 (upB b z k) m = true ↔
    hasS (dimAt d0 d1 d2 k) (bAt b k) z (coK d0 d1 m k) = true ∧ ∀ j, j ≠ k → hasS (dimAt d0 d1 d2 j) (bAt b j) (sAt b j) (coK d0 d1 m j) = true := by
  rw [hasB_iff]
  constructor
  · intro h
    refine ⟨?_, fun j hj => ?_⟩
    · have := h k
      rw [upB_b, upB_s, if_pos rfl] at this
      exact this
    · have := h j
      rw [upB_b, upB_s, if_neg hj] at this
      exact this
  · rintro ⟨h1, h2⟩ j
    rw [upB_b, upB_s]
    by_cases hj : j = k
    · subst hj; rw [if_pos rfl]; exact h1
    · rw [if_neg hj]; exact h2 j hj

/-- The cables that a box takes along an axis, from its lines' first midplanes on: those that go from the midplanes of a box. -/
theorem line_mem {d0 d1 d2 : Int} {b : Bx} (h : mayD d0 d1 d2) (hb : mayB d0 d1 d2 b) (k : Fin 3) {z : Int} (hz : 0 ≤ z ∧ z ≤ dimAt d0 d1 d2 k) {n : Int} :
    (∃ m, (0 ≤ m ∧ m < d0 * d1 * d2) ∧ hasB d0 d1 d2 b m = true ∧ coK d0 d1 m k = bAt b k ∧ n ∈ cablesW d0 d1 d2 m k z.toNat) ↔
    (1 < dimAt d0 d1 d2 k ∧ ∃ o, (0 ≤ o ∧ o < d0 * d1 * d2) ∧ hasB d0 d1 d2 (upB b z k) o = true ∧ n = cabW d0 d1 d2 k o) := by
  have hd := dimAt_ok h k
  unfold okD at hd
  have hbk := (mayB_at hb k).2
  constructor
  · rintro ⟨m, hm, hbm, hco, hn⟩
    obtain ⟨h1, o, ho, rfl⟩ := cables_mem.1 hn
    obtain ⟨hoN, i, hi, e⟩ := nodes_mem.1 ho
    refine ⟨h1, (o : Int), ⟨by omega, hoN⟩, ?_, rfl⟩
    rw [upB_has]
    have hc := co_on h hm k (i : Int)
    rw [e] at hc
    refine ⟨?_, fun j hj => ?_⟩
    · rw [hasS_iff0 hz hbk (co_bd h ⟨by omega, hoN⟩ k)]
      refine ⟨(i : Int), by omega, by omega, ?_⟩
      rw [hc k, if_pos rfl, hco]
    · rw [hc j, if_neg hj]
      exact hasB_iff.1 hbm j
  · rintro ⟨h1, o, ho, hbo, rfl⟩
    obtain ⟨u1, u2⟩ := upB_has.1 hbo
    obtain ⟨i, i0, i1, hi⟩ := (hasS_iff0 hz hbk (co_bd h ho k)).1 u1
    have hm := on_node h ho k (-i)
    have hc := co_on h ho k (-i)
    have ek : coK d0 d1 (onD d0 d1 d2 o k (-i)) k = bAt b k := by
      rw [hc k, if_pos rfl, ← hi, Int.emod_add_emod, show bAt b k + i + -i = bAt b k by omega, Int.emod_eq_of_lt hbk.1 hbk.2]
    refine ⟨onD d0 d1 d2 o k (-i), hm, ?_, ek, ?_⟩
    · rw [hasB_iff]
      intro j
      by_cases hj : j = k
      · subst hj
        rw [ek]
        exact hasS_base (mayB_at hb j)
      · rw [hc j, if_neg hj]
        exact u2 j hj
    · refine cables_mem.2 ⟨h1, o.toNat, nodes_mem.2 ⟨by omega, i.toNat, by omega, ?_⟩, by rw [Int.toNat_of_nonneg ho.1]⟩
      rw [Int.toNat_of_nonneg i0, Int.toNat_of_nonneg ho.1, on_on h ho, show -i + i = 0 by omega]
      exact on_round h ho k 0 (.inl rfl)

/-- From how many midplanes of each of its lines the cables that a place takes go. -/
def runS (r s : Int) (t : Bool) : Int := if t = true then r else s - 1
theorem runS_bd {r s : Int} (t : Bool) (h : 1 ≤ s ∧ s ≤ r) : 0 ≤ runS r s t ∧ runS r s t ≤ r := by unfold runS; split <;> omega
def tK (t0 t1 t2 : Bool) (k : Fin 3) : Bool := match k with | 0 => t0 | 1 => t1 | 2 => t2

/-- A mesh takes none that it does not take as a torus. -/
theorem mesh_in {d0 d1 d2 m : Int} {b : Bx} (h : mayD d0 d1 d2) (hb : mayB d0 d1 d2 b) (hm : 0 ≤ m ∧ m < d0 * d1 * d2) (k : Fin 3) (t : Bool)
    (hu : hasB d0 d1 d2 (upB b (runS (dimAt d0 d1 d2 k) (sAt b k) false) k) m = true) : hasB d0 d1 d2 (upB b (runS (dimAt d0 d1 d2 k) (sAt b k) t) k) m = true := by
  obtain ⟨u1, u2⟩ := upB_has.1 hu
  refine upB_has.2 ⟨?_, u2⟩
  have hs := (mayB_at hb k).1
  have hbd := aft_bd (mayB_at hb k).2 (co_bd h hm k)
  have e0 : runS (dimAt d0 d1 d2 k) (sAt b k) false = sAt b k - 1 := by simp [runS]
  rw [e0] at u1
  unfold hasS at u1 ⊢
  rw [decide_eq_true_eq] at u1 ⊢
  unfold runS
  split <;> omega
/-- Both ends of a mesh's cable are its own. -/
theorem mesh_ends {d0 d1 d2 m : Int} {b : Bx} (h : mayD d0 d1 d2) (hb : mayB d0 d1 d2 b) (hm : 0 ≤ m ∧ m < d0 * d1 * d2) (k : Fin 3)
    (hu : hasB d0 d1 d2 (upB b (runS (dimAt d0 d1 d2 k) (sAt b k) false) k) m = true) : hasB d0 d1 d2 b m = true ∧ hasB d0 d1 d2 b (onD d0 d1 d2 m k 1) = true := by
  obtain ⟨u1, u2⟩ := upB_has.1 hu
  have hs := (mayB_at hb k).1
  have hbk := (mayB_at hb k).2
  have hco := co_bd h hm k
  have hc := co_on h hm k 1
  simp only [runS] at u1
  simp at u1
  constructor
  · rw [hasB_iff]
    intro j
    by_cases hj : j = k
    · subst hj
      simp only [hasS, decide_eq_true_eq] at u1 ⊢
      omega
    · exact u2 j hj
  · rw [hasB_iff]
    intro j
    by_cases hj : j = k
    · subst hj
      rw [hc j, if_pos rfl]
      obtain ⟨i, i0, i1, hi⟩ := (hasS_iff0 (by omega) hbk hco).1 u1
      rw [hasS_iff (mayB_at hb j) ⟨Int.emod_nonneg _ (by omega), Int.emod_lt_of_pos _ (by omega)⟩]
      refine ⟨i + 1, by omega, by omega, ?_⟩
      rw [← hi, Int.emod_add_emod, Int.add_assoc]
    · rw [hc j, if_neg hj]
      exact u2 j hj

/-- How many of a ring a side has. -/
theorem side_count : ∀ r : Nat, r < 17 → ∀ b : Nat, b < r → ∀ s : Nat, s < r + 1 → ((List.range r).filter fun j : Nat => hasS (r : Int) (b : Int) (s : Int) (j : Int)).length = s := by decide +kernel

end Go.Proofs.YtldcagjnngkabaaGreatDoor

/-
  box.side's coords: the coordinates of a side, rising, in new memory.
-/
namespace Go.Proofs.YtldcagjnngkabaaGreatDoor
open Go.RowKit Go.Shelf

attribute [local go_sem] Oper.semAt_some ext_const

def coordsTo (r b s : Int) (k : Nat) : List Int := ((List.range k).filter (fun j : Nat => hasS r b s j)).map (fun j : Nat => (j : Int))
def coordsS (r b s : Int) : List Int := coordsTo r b s r.toNat
theorem coordsTo_len (r b s : Int) (k : Nat) : (coordsTo r b s k).length ≤ k := by
  have := List.length_filter_le (fun j : Nat => hasS r b s j) (List.range k)
  simpa [coordsTo] using this
theorem coordsTo_yes {r b s : Int} {k : Nat} (h : hasS r b s k = true) : coordsTo r b s (k + 1) = coordsTo r b s k ++ [(k : Int)] := by
  simp [coordsTo, List.range_succ, List.filter_append, h]
theorem coordsTo_no {r b s : Int} {k : Nat} (h : hasS r b s k = false) : coordsTo r b s (k + 1) = coordsTo r b s k := by
  simp [coordsTo, List.range_succ, List.filter_append, h]

set_option maxRecDepth 100000 in
set_option maxHeartbeats 2000000 in
theorem coords_calls {r b s : Int} (w : World) (hr : r ≤ 16) (h : mayS r b s) :
    Calls Tryz.prog 159 #[A3 r b s] w fun e W' => ∃ v, e = .returned v ∧ Lst W' w.heap.size v (coordsS r b s) ∧ Below w.heap.size w W' := by
  have HH : Hid (∀ (w : World) (k : Int), 0 ≤ k → k < r → Calls Tryz.prog 179 #[A3 r b s, I k] w fun e W' => e = .returned (.bool (hasS r b s k)) ∧ Below w.heap.size w W') :=
    fun w k h0 h1 => has_calls s w hr h.2 ⟨h0, h1⟩
  obtain ⟨⟨s0, s1⟩, b0', b1'⟩ := h
  unfold coordsS
  go_enter Tryz.func159, Tryz.ntmps159
  have hB0 : Below w.heap.size w (w.alloc (.cells #[I r, I b, I s] 208)) := (Below.refl _ w).alloc (Nat.le_refl _) _
  have b0 := Blk.new w 208 #[I r, I b, I s]
  go_wp2_with (at_make; refine wpList_mk (base := (w.alloc (.cells #[I r, I b, I s] 208)).heap.size) rfl _ _ rfl s rfl rfl (by omega) (by omega) (Nat.le_refl _) ?_; intro v1 w1 hL1 hT1; obtain ⟨c0, c1, c2, hz⟩ := b0.three hT1)
  generalize w.alloc (.cells #[I r, I b, I s] 208) = W at *
  clear c0 c1 c2 hz
  go_loopw [3, 10] (fun v i wr => ∃ k : Nat, (k : Int) ≤ r ∧ i = .int .i64 k ∧ Lst wr W.heap.size v (coordsTo r b s k) ∧ Below W.heap.size W wr) (fun _ i _ => r.toNat - (RowKit.intOf i).toNat)
  case atStart => exact ⟨0, by omega, rfl, hL1, hT1⟩
  case round =>
    clear hL1 hT1
    obtain ⟨k, hk, rfl, hL, hT⟩ := hrel
    obtain ⟨c0, c1, c2, hz⟩ := b0.three hT
    by_cases hlt : (k : Int) < r
    · go_wp2_with fail
      refine (HH.out _ k (by omega) hlt).mono ?_
      rintro e w2 ⟨rfl, hB2⟩
      have hL := hL.later hB2
      have hT := then_below hT hB2
      clear c0 c1 c2 hz hB2
      cases hq : hasS r b s k
      · go_wp2
        go_roundw
        case rel => exact ⟨k + 1, by omega, by go_num, by rw [coordsTo_no hq]; exact hL, hT⟩
        case measure => simp [RowKit.intOf]; omega
      · go_wp2_with (at_builtin; refine wpList_app rfl _ _ rfl rfl rfl hL (by have := coordsTo_len r b s k; omega) hT.size ?_; intro v' w3 hL3 hT3)
        have hT := hT.trans hT3
        rw [← coordsTo_yes hq] at hL3
        clear hT3 hL
        go_roundw
        case rel => exact ⟨k + 1, by omega, by go_num, hL3, hT⟩
        case measure => simp [RowKit.intOf]; omega
    · have E : r.toNat = k := by omega
      have hL' : Lst wr w.heap.size _ (coordsTo r b s r.toNat) := (E ▸ hL).weak hB0.size
      clear hL E
      go_wp2
      go_ret
      exact ⟨_, rfl, hL', then_below hB0 hT⟩

end Go.Proofs.YtldcagjnngkabaaGreatDoor

/-
  box.many, box.Many, box.Canon: what each call answers.
-/
namespace Go.Proofs.YtldcagjnngkabaaGreatDoor
open Go.RowKit Go.Shelf

attribute [local go_sem] Oper.semAt_some ext_const

theorem Blk.set6 {W : World} {B : Nat} {t : TypeId} {x0 x1 x2 x3 x4 x5 : Value} (h : Blk W B t #[x0, x1, x2, x3, x4, x5]) (a b c d e f : Value) :
    Blk ((((((W.setCell ⟨B, 0, none⟩ a).setCell ⟨B, 1, none⟩ b).setCell ⟨B, 2, none⟩ c).setCell ⟨B, 3, none⟩ d).setCell ⟨B, 4, none⟩ e).setCell ⟨B, 5, none⟩ f) B t #[a, b, c, d, e, f] :=
  (((((h.set 0 a).set 1 b).set 2 c).set 3 d).set 4 e).set 5 f
theorem below_set6 {n : Nat} {w W : World} {B : Nat} (h : Below n w W) (hn : n ≤ B) (a b c d e f : Value) :
    Below n w ((((((W.setCell ⟨B, 0, none⟩ a).setCell ⟨B, 1, none⟩ b).setCell ⟨B, 2, none⟩ c).setCell ⟨B, 3, none⟩ d).setCell ⟨B, 4, none⟩ e).setCell ⟨B, 5, none⟩ f) :=
  (((((h.setCell (p := ⟨B, 0, none⟩) hn a).setCell (p := ⟨B, 1, none⟩) hn b).setCell (p := ⟨B, 2, none⟩) hn c).setCell (p := ⟨B, 3, none⟩) hn d).setCell (p := ⟨B, 4, none⟩) hn e).setCell (p := ⟨B, 5, none⟩) hn f
theorem Blk.row6 {W : World} {B : Nat} {t : TypeId} {a b c d e f : Value} (h : Blk W B t #[a, b, c, d, e, f]) :
    (W.cell? ⟨B, 0, none⟩ = some a ∧ W.cell? ⟨B, 1, none⟩ = some b ∧ W.cell? ⟨B, 2, none⟩ = some c ∧ W.cell? ⟨B, 3, none⟩ = some d ∧ W.cell? ⟨B, 4, none⟩ = some e ∧ W.cell? ⟨B, 5, none⟩ = some f) ∧
    (W.frozen? ⟨B, 0, none⟩ = false ∧ W.frozen? ⟨B, 1, none⟩ = false ∧ W.frozen? ⟨B, 2, none⟩ = false ∧ W.frozen? ⟨B, 3, none⟩ = false ∧ W.frozen? ⟨B, 4, none⟩ = false ∧ W.frozen? ⟨B, 5, none⟩ = false) :=
  ⟨⟨h.cell 0, h.cell 1, h.cell 2, h.cell 3, h.cell 4, h.cell 5⟩, h.frozen 0, h.frozen 1, h.frozen 2, h.frozen 3, h.frozen 4, h.frozen 5⟩

/-- A box that may be is small. -/
theorem sizes_bd {d0 d1 d2 : Int} {b : Bx} (hm : mayD d0 d1 d2) (hb : mayB d0 d1 d2 b) : (1 ≤ b.a ∧ b.a ≤ 16) ∧ (1 ≤ b.b ∧ b.b ≤ 16) ∧ (1 ≤ b.c ∧ b.c ≤ 16) := by
  obtain ⟨h0, h1, h2⟩ := hm
  unfold okD at h0 h1 h2
  obtain ⟨⟨g0, _⟩, ⟨g1, _⟩, ⟨g2, _⟩⟩ := hb
  omega

set_option maxHeartbeats 1000000 in
theorem bmany_calls {b : Bx} (w : World) (ha : 1 ≤ b.a ∧ b.a ≤ 16) (hb : 1 ≤ b.b ∧ b.b ≤ 16) (hc : 1 ≤ b.c ∧ b.c ≤ 16) :
    Calls Tryz.prog 160 #[B6 b] w fun e W' => e = .returned (I (manyB b)) ∧ Below w.heap.size w W' := by
  have p1 : 0 ≤ b.a * b.b ∧ b.a * b.b ≤ 16 * 16 := mul_bd (by omega) ha.2 (by omega) hb.2
  have p2 : 0 ≤ b.a * b.b * b.c ∧ b.a * b.b * b.c ≤ 16 * 16 * 16 := mul_bd p1.1 p1.2 (by omega) hc.2
  unfold manyB
  obtain ⟨a0, a1⟩ := ha
  obtain ⟨b0, b1⟩ := hb
  obtain ⟨c0, c1⟩ := hc
  obtain ⟨p10, p11⟩ := p1
  obtain ⟨p20, p21⟩ := p2
  go_enter Tryz.func160, Tryz.ntmps160
  go_wp2
  go_loop [3, 5] (fun n i => (i = .int .i64 0 ∧ n = I 1) ∨ (i = .int .i64 1 ∧ n = I b.a) ∨ (i = .int .i64 2 ∧ n = I (b.a * b.b)) ∨ (i = .int .i64 3 ∧ n = I (b.a * b.b * b.c))) (fun _ i => 3 - (RowKit.intOf i).toNat)
  case atStart => exact .inl ⟨rfl, rfl⟩
  case round =>
    rcases hrel with ⟨rfl, rfl⟩ | ⟨rfl, rfl⟩ | ⟨rfl, rfl⟩ | ⟨rfl, rfl⟩
    · go_wp2
      go_round
      case rel => exact .inr (.inl ⟨rfl, by simp⟩)
      case measure => simp [RowKit.intOf]
    · go_wp2
      go_round
      case rel => exact .inr (.inr (.inl ⟨rfl, rfl⟩))
      case measure => simp [RowKit.intOf]
    · go_wp2
      go_round
      case rel => exact .inr (.inr (.inr ⟨rfl, rfl⟩))
      case measure => simp [RowKit.intOf]
    · go_wp2
      go_ret
      exact ⟨rfl, (Below.refl _ w).alloc (Nat.le_refl _) _⟩

theorem errB_ok {d0 d1 d2 : Int} {b : Bx} (hm : mayD d0 d1 d2) (hb : mayB d0 d1 d2 b) : errB d0 d1 d2 b = 0 := by
  rw [errB, if_pos ((okDB_iff _ _ _).2 hm), (mayBB_iff _ _ _ _).2 hb]; rfl
theorem errB_no {d0 d1 d2 : Int} {b : Bx} (hm : mayD d0 d1 d2) (hb : ¬ mayB d0 d1 d2 b) : errB d0 d1 d2 b = 2 := by
  rw [errB, if_pos ((okDB_iff _ _ _).2 hm), mayBB_no hb]; rfl
theorem errB_bad {d0 d1 d2 : Int} {b : Bx} (hm : ¬ mayD d0 d1 d2) : errB d0 d1 d2 b = 8 := by
  rw [errB, if_neg (by rw [okDB_iff]; exact hm)]
theorem errB_cases (d0 d1 d2 : Int) (b : Bx) : (mayD d0 d1 d2 ∧ mayB d0 d1 d2 b ∧ errB d0 d1 d2 b = 0) ∨ ((errB d0 d1 d2 b = 2 ∨ errB d0 d1 d2 b = 8) ∧ ¬ (mayD d0 d1 d2 ∧ mayB d0 d1 d2 b)) := by
  by_cases hm : mayD d0 d1 d2
  · by_cases hb : mayB d0 d1 d2 b
    · exact .inl ⟨hm, hb, errB_ok hm hb⟩
    · exact .inr ⟨.inl (errB_no hm hb), fun h => hb h.2⟩
  · exact .inr ⟨.inr (errB_bad hm), fun h => hm h.1⟩

end Go.Proofs.YtldcagjnngkabaaGreatDoor

/-
  pos.At: the midplane at coordinates, for every input; nothing that lay before is turned.
-/
namespace Go.Proofs.YtldcagjnngkabaaGreatDoor
open Go.RowKit Go.Shelf

attribute [local go_sem] Oper.semAt_some ext_const

/-- The four blocks that the call lays first. -/
theorem at_start (w : World) (u0 u1 u2 u3 : Array Value) (t0 t1 t2 t3 : TypeId) :
    ∃ W : World, (((w.alloc (.cells u0 t0)).alloc (.cells u1 t1)).alloc (.cells u2 t2)).alloc (.cells u3 t3) = W ∧ W.heap.size = w.heap.size + 4 ∧ Below w.heap.size w W ∧
      Blk W w.heap.size t0 u0 ∧ Blk W (w.heap.size + 1) t1 u1 ∧ Blk W (w.heap.size + 1 + 1) t2 u2 ∧ Blk W (w.heap.size + 1 + 1 + 1) t3 u3 := by
  refine ⟨_, rfl, by simp, ((((Below.refl _ w).alloc (Nat.le_refl _) _).alloc (by simp) _).alloc (by simp; omega) _).alloc (by simp; omega) _, ?_, ?_, ?_, ?_⟩
  · exact (((Blk.new w t0 u0).alloc _).alloc _).alloc _
  · have := ((Blk.new (w.alloc (.cells u0 t0)) t1 u1).alloc (.cells u2 t2)).alloc (.cells u3 t3); simpa using this
  · have := (Blk.new ((w.alloc (.cells u0 t0)).alloc (.cells u1 t1)) t2 u2).alloc (.cells u3 t3); simpa using this
  · have := Blk.new (((w.alloc (.cells u0 t0)).alloc (.cells u1 t1)).alloc (.cells u2 t2)) t3 u3; simpa using this

set_option maxHeartbeats 400000 in
theorem at_bad {d0 d1 d2 : Int} (p0 p1 p2 : Int) (w : World) (hm : ¬ mayD d0 d1 d2) :
    Calls Tryz.prog 161 #[A3 d0 d1 d2, A3 p0 p1 p2] w fun e W' => e = .returned (.tuple #[I 0, I 8]) ∧ Below w.heap.size w W' := by
  go_enter Tryz.func161, Tryz.ntmps161
  go_wp2_with fail
  obtain ⟨W, hW, hs, hB0, b0, b1, b2, b3⟩ := at_start w #[I d0, I d1, I d2] #[I p0, I p1, I p2] #[I 0] #[I 0] 23 22 3 31
  rw [hW]
  clear hW
  refine (check_no _ hm).mono ?_
  rintro e w1 ⟨rfl, hB⟩
  have g2 := b2.later hB
  have g3 := b3.later hB
  have c2 := g2.cell 0
  have c3 := g3.cell 0
  have f2 := g2.frozen 0
  have f3 := g3.frozen 0
  simp at c2 c3
  go_wp2
  have k2 := ((g2.set 0 (.int .i64 0)).other (B' := w.heap.size + 1 + 1 + 1) 0 (.int .i64 8) (by omega)).cell 0
  have k3 := ((g3.other (B' := w.heap.size + 1 + 1) 0 (.int .i64 0) (by omega)).set 0 (.int .i64 8)).cell 0
  simp at k2 k3
  exact bodyPost_ret (v := .tuple #[I 0, I 8]) (by simp [results, Tryz.f161, go_sem, k2, k3]) rfl ⟨rfl, ((hB0.trans (hB.mono (by omega))).setCell (p := ⟨w.heap.size + 1 + 1, 0, none⟩) (by simp; omega) _).setCell (p := ⟨w.heap.size + 1 + 1 + 1, 0, none⟩) (by simp; omega) _⟩

set_option maxRecDepth 100000 in
set_option maxHeartbeats 2000000 in
theorem at_loop {d0 d1 d2 : Int} (p0 p1 p2 : Int) (w : World) (hm : mayD d0 d1 d2) :
    Calls Tryz.prog 161 #[A3 d0 d1 d2, A3 p0 p1 p2] w fun e W' => ((inD d0 d1 d2 p0 p1 p2 ∧ e = .returned (.tuple #[I (numD d0 d1 p0 p1 p2), I 0])) ∨ (¬ inD d0 d1 d2 p0 p1 p2 ∧ e = .returned (.tuple #[I 0, I 2]))) ∧ Below w.heap.size w W' := by
  refine (callsIn_wide (n := 3)).1 ?_
  refine callsIn_of_wp_marks Tryz.func161 rfl trivial ?_ rfl
  simp only [Tryz.ntmps161, List.size_toArray, List.length_cons, List.length_nil, Nat.reduceAdd, Nat.reduceSub, Array.replicate_succ, Array.replicate_zero, List.push_toArray, List.append_toArray, List.nil_append, List.cons_append]
  gi_wp2_with fail
  obtain ⟨W, hW, hs, hB0, b0, b1, b2, b3⟩ := at_start w #[I d0, I d1, I d2] #[I p0, I p1, I p2] #[I 0] #[I 0] 23 22 3 31
  rw [hW]
  clear hW
  refine ⟨trivial, ?_⟩
  refine (callsIn_wide.2 (check_yes _ hm)).mono ?_
  rintro e w1 ⟨rfl, hB⟩
  have hz : w.heap.size + 4 ≤ w1.heap.size := by have := hB.size; omega
  have g0 := b0.later hB
  have g1 := b1.later hB
  have g2 := b2.later hB
  have g3 := b3.later hB
  have hB1 : Below w.heap.size w w1 := hB0.trans (hB.mono (by omega))
  have hz0 : w.heap.size < w1.heap.size := by omega
  have hz1 : w.heap.size + 1 < w1.heap.size := by omega
  have hz2 : w.heap.size + 1 + 1 < w1.heap.size := by omega
  have hz3 : w.heap.size + 1 + 1 + 1 < w1.heap.size := by omega
  clear hB b0 b1 b2 b3 hB0 hs
  have c0 := g0.cell 0
  have c1 := g0.cell 1
  have c2 := g0.cell 2
  simp at c0 c1 c2
  gi_wp2_with (refine ⟨trivial, ?_⟩; gi_at_call 120; refine (callsIn_wide.2 (axes_calls _ _ _ _)).mono ?_; rintro e w' ⟨rfl, rfl⟩)
  obtain ⟨W, hW⟩ : ∃ W, (w1.alloc (.cells #[I 0] 3)).alloc (.cells #[I d0, I d1, I d2] 23) = W := ⟨_, rfl⟩
  have q0 : Blk W w.heap.size 23 #[I d0, I d1, I d2] := hW ▸ (g0.alloc _).alloc _
  have q1 : Blk W (w.heap.size + 1) 22 #[I p0, I p1, I p2] := hW ▸ (g1.alloc _).alloc _
  have q2 : Blk W (w.heap.size + 1 + 1) 3 #[I 0] := hW ▸ (g2.alloc _).alloc _
  have q3 : Blk W (w.heap.size + 1 + 1 + 1) 31 #[I 0] := hW ▸ (g3.alloc _).alloc _
  have q4 : Blk W w1.heap.size 3 #[I 0] := hW ▸ (Blk.new w1 3 #[I 0]).alloc _
  have q5 : Blk W (w1.heap.size + 1) 23 #[I d0, I d1, I d2] := by
    have := Blk.new (w1.alloc (.cells #[I 0] 3)) 23 #[I d0, I d1, I d2]
    rw [World.size_alloc] at this; exact hW ▸ this
  have hBW : Below w.heap.size w W := hW ▸ (hB1.alloc hB1.size _).alloc (by simp; omega) _
  have hsW : W.heap.size = w1.heap.size + 2 := by rw [← hW]; simp
  rw [hW]
  clear hW g0 g1 g2 g3 c0 c1 c2 hB1
  refine wpIn_axes (w1.heap.size + 1) d0 d1 d2 rfl q5 rfl
    (fun pre W => ((∀ k ∈ pre, inK d0 d1 d2 p0 p1 p2 k) ∧ Blk W w.heap.size 23 #[I d0, I d1, I d2] ∧ Blk W (w.heap.size + 1) 22 #[I p0, I p1, I p2] ∧ Blk W (w.heap.size + 1 + 1) 3 #[I 0] ∧ Blk W (w.heap.size + 1 + 1 + 1) 31 #[I 0] ∧ Blk W w1.heap.size 3 #[I (numL d0 d1 p0 p1 p2 pre)]) ∧ Below w.heap.size w W)
    (fun c pre W => (c = .ret ∧ (∃ k ∈ pre, ¬ inK d0 d1 d2 p0 p1 p2 k) ∧ Blk W (w.heap.size + 1 + 1) 3 #[I 0] ∧ Blk W (w.heap.size + 1 + 1 + 1) 31 #[I 2]) ∧ Below w.heap.size w W)
    (OwnFrom.and (Own.from (own_and (own_pure _) (own_and (blk_own _ _ _) (own_and (blk_own _ _ _) (own_and (blk_own _ _ _) (own_and (blk_own _ _ _) (blk_own _ _ _)))))) _) (ownFrom_below (Nat.le_refl _) (by omega)))
    (fun c => OwnFrom.and (Own.from (own_and (own_pure _) (own_and (own_pure _) (own_and (blk_own _ _ _) (blk_own _ _ _)))) _) (ownFrom_below (Nat.le_refl _) (by omega)))
    ⟨⟨by simp, q0, q1, q2, q3, q4⟩, hBW⟩
    (fun x => { tmps := #[A3 d0 d1 d2, A3 p0 p1 p2, .pointer (some ⟨w.heap.size, 0, none⟩), .pointer (some ⟨w.heap.size + 1, 0, none⟩), .pointer (some ⟨w.heap.size + 1 + 1, 0, none⟩), .pointer (some ⟨w.heap.size + 1 + 1 + 1, 0, none⟩), I 0, .pointer (some ⟨w1.heap.size, 0, none⟩), .int .i64 (axI x), .int .i64 (strd d0 d1 x), A3 d0 d1 d2, I 0, I 0, .bool false, undef, A3 d0 d1 d2, .func (.func 153) #[] #[.pointer (some ⟨w1.heap.size + 1, 0, none⟩)], .int .i64 (axI x), .int .i64 (strd d0 d1 x), undef, undef, undef, undef, undef, undef, undef, undef, undef, undef, undef, undef, undef, undef, undef, undef], defers := [] }) ?assign ?body ?done ?stop
  case assign =>
    intro l x W K hK
    gi_wp2
    exact hK
  case body =>
    clear q0 q1 q2 q3 q4 q5 hBW hsW
    rintro l pre x W ⟨⟨hp, q0, q1, q2, q3, q4⟩, hB⟩ hlen
    have hmx : Tryz.prog.follows .mixedOrders = true := by kernel_rfl
    have e0 := Ext.cell q0 0
    have e1 := Ext.cell q0 1
    have e2 := Ext.cell q0 2
    have e3 := Ext.cell q1 0
    have e4 := Ext.cell q1 1
    have e5 := Ext.cell q1 2
    simp at e0 e1 e2 e3 e4 e5
    by_cases hx : inK d0 d1 d2 p0 p1 p2 x
    · have HW : Hid (wrap64 (numL d0 d1 p0 p1 p2 pre + wrap64 (dimAt p0 p1 p2 x * strd d0 d1 x)) = numL d0 d1 p0 p1 p2 (pre ++ [x])) := numL_snoc hm pre x hlen hp hx
      have hb : belowB (dimAt p0 p1 p2 x) (dimAt d0 d1 d2 x) = true := by unfold inK at hx; simp [belowB, hx.1, hx.2]
      generalize hst : strd d0 d1 x = st at *
      have Hst := hst
      clear hst
      rcases fin3 x with rfl | rfl | rfl
      all_goals
        simp only [axI, dimAt] at hb ⊢
        gi_wp2
        refine wpIn_region_look (loose_round _ l) hmx (by kernel_rfl) ?_
        repeat (go_big_quiet_step (exact calls_ext_same (below_calls _ _ _)))
        refine wpQuiet_nil ?_
        intro x
        gi_wp2
        have r1 := q1.later x.le
        have r4 := q4.later x.le
        have e3 := Ext.cell r1 0
        have e4 := Ext.cell r1 1
        have e5 := Ext.cell r1 2
        have e6 := Ext.cell r4 0
        simp at e3 e4 e5 e6
        refine wpIn_region_tail 7 (loose_round _ l) hmx (by kernel_rfl) ?_
        simp only [List.take_succ_cons, List.take_zero, List.drop_succ_cons, List.drop_zero]
        repeat (go_big_quiet_step (fail))
        refine wpQuiet_nil ?_
        intro y
        have g3 := Ext.frozen r4 0 y
        have e6 := e6 y
        gi_wp2
        refine ⟨((keeps_below x.le).trans (keeps_below y.le)).trans (KeepsOthers.setCell _ _ _), trivial, ⟨fun k hk => ?_, ((q0.later x.le).later y.le).other 0 _ (by omega), ((q1.later x.le).later y.le).other 0 _ (by omega), ((q2.later x.le).later y.le).other 0 _ (by omega), ((q3.later x.le).later y.le).other 0 _ (by omega), ?_⟩, (below_ext (below_ext hB x) y).setCell (p := ⟨w1.heap.size, 0, none⟩) (by simp; omega) _⟩
        · rcases List.mem_append.1 hk with h | h
          · exact hp k h
          · simp at h; subst h; exact hx
        · rw [← HW.out]
          exact (r4.later y.le).set 0 _
    · have hb : belowB (dimAt p0 p1 p2 x) (dimAt d0 d1 d2 x) = false := by unfold inK at hx; simp [belowB]; omega
      generalize hst : strd d0 d1 x = st at *
      clear hst
      rcases fin3 x with rfl | rfl | rfl
      all_goals
        simp only [axI, dimAt] at hb ⊢
        gi_wp2
        refine wpIn_region_look (loose_round _ l) hmx (by kernel_rfl) ?_
        repeat (go_big_quiet_step (exact calls_ext_same (below_calls _ _ _)))
        refine wpQuiet_nil ?_
        intro x
        have r2 := q2.later x.le
        have r3 := q3.later x.le
        have c2 := r2.cell 0
        have c3 := r3.cell 0
        have f2 := r2.frozen 0
        have f3 := r3.frozen 0
        simp at c2 c3
        gi_wp2
        exact ⟨((keeps_below x.le).trans (KeepsOthers.setCell _ _ _)).trans (KeepsOthers.setCell _ _ _), ⟨rfl, ⟨_, List.mem_append.2 (.inr (List.mem_singleton.2 rfl)), hx⟩, (r2.set 0 _).other 0 _ (by omega), (r3.other 0 _ (by omega)).set 0 _⟩, ((below_ext hB x).setCell (p := ⟨w.heap.size + 1 + 1, 0, none⟩) (by simp; omega) _).setCell (p := ⟨w.heap.size + 1 + 1 + 1, 0, none⟩) (by simp; omega) _⟩
  case done =>
    clear q0 q1 q2 q3 q4 q5 hBW
    rintro D W hD ⟨⟨hp, q0, q1, q2, q3, q4⟩, hB⟩ hK
    have c2 := q2.cell 0
    have c3 := q3.cell 0
    have c4 := q4.cell 0
    have f2 := q2.frozen 0
    have f3 := q3.frozen 0
    simp at c2 c3 c4
    gi_wp2
    have hK' := ((KeepsOthers.setCell W ⟨w.heap.size + 1 + 1, 0, none⟩ (.int .i64 (numL d0 d1 p0 p1 p2 [0, 1, 2]))).trans (KeepsOthers.setCell _ ⟨w.heap.size + 1 + 1 + 1, 0, none⟩ (.int .i64 0))).same D _ hK rfl
    refine ⟨by simp, .inl ⟨_, _, rfl, run_takeDeferred hK', ?_⟩⟩
    have k2 := (((q2.set 0 (.int .i64 (numL d0 d1 p0 p1 p2 [0, 1, 2]))).other (B' := w.heap.size + 1 + 1 + 1) 0 (.int .i64 0) (by omega)).putObj (.deferred none) hK' rfl).cell 0
    have k3 := (((q3.other (B' := w.heap.size + 1 + 1) 0 (.int .i64 (numL d0 d1 p0 p1 p2 [0, 1, 2])) (by omega)).set 0 (.int .i64 0)).putObj (.deferred none) hK' rfl).cell 0
    simp at k2 k3
    refine ⟨.tuple #[I (numL d0 d1 p0 p1 p2 [0, 1, 2]), I 0], ?_, .inl ⟨inD_of hp, by rw [numL_all hm]⟩, below_put _ ((hB.setCell (p := ⟨w.heap.size + 1 + 1, 0, none⟩) (by simp; omega) _).setCell (p := ⟨w.heap.size + 1 + 1 + 1, 0, none⟩) (by simp; omega) _) (by omega) hK'⟩
    simp [results, Tryz.f161, go_sem, k2, k3]
  case stop =>
    clear q0 q1 q2 q3 q4 q5 hBW
    rintro D c pre W hD hpre ⟨⟨rfl, ⟨k, hk, hno⟩, q2, q3⟩, hB⟩ hK
    gi_wp2
    refine ⟨by simp, .inl ⟨_, _, rfl, run_takeDeferred hK, ?_⟩⟩
    have k2 := (q2.putObj (.deferred none) hK rfl).cell 0
    have k3 := (q3.putObj (.deferred none) hK rfl).cell 0
    simp at k2 k3
    refine ⟨.tuple #[I 0, I 2], ?_, .inr ⟨fun h => hno (inK_of h k), rfl⟩, below_put _ hB (by omega) hK⟩
    simp [results, Tryz.f161, go_sem, k2, k3]

theorem at_yes {d0 d1 d2 p0 p1 p2 : Int} (w : World) (hm : mayD d0 d1 d2) (hp : inD d0 d1 d2 p0 p1 p2) :
    Calls Tryz.prog 161 #[A3 d0 d1 d2, A3 p0 p1 p2] w fun e W' => e = .returned (.tuple #[I (numD d0 d1 p0 p1 p2), I 0]) ∧ Below w.heap.size w W' := by
  refine (at_loop p0 p1 p2 w hm).mono ?_
  rintro e W' ⟨⟨_, rfl⟩ | ⟨hn, _⟩, hB⟩
  · exact ⟨rfl, hB⟩
  · exact absurd hp hn

theorem at_no {d0 d1 d2 p0 p1 p2 : Int} (w : World) (hm : mayD d0 d1 d2) (hp : ¬ inD d0 d1 d2 p0 p1 p2) :
    Calls Tryz.prog 161 #[A3 d0 d1 d2, A3 p0 p1 p2] w fun e W' => e = .returned (.tuple #[I 0, I 2]) ∧ Below w.heap.size w W' := by
  refine (at_loop p0 p1 p2 w hm).mono ?_
  rintro e W' ⟨⟨hy, _⟩ | ⟨_, rfl⟩, hB⟩
  · exact absurd hy hp
  · exact ⟨rfl, hB⟩

end Go.Proofs.YtldcagjnngkabaaGreatDoor

/-
  pos.Of: the coordinates of a midplane, for every input; nothing that lay before is turned.
-/
namespace Go.Proofs.YtldcagjnngkabaaGreatDoor
open Go.RowKit Go.Shelf

attribute [local go_sem] Oper.semAt_some ext_const

set_option maxHeartbeats 400000 in
theorem of_err {d0 d1 d2 : Int} (m e : Int) (w : World) (he : (e != 0) = true)
    (hc : ∀ w, Calls Tryz.prog 211 #[A3 d0 d1 d2, I m] w fun x W' => x = .returned (I e) ∧ Below w.heap.size w W') :
    Calls Tryz.prog 205 #[A3 d0 d1 d2, I m] w fun x W' => x = .returned (.tuple #[A3 0 0 0, I e]) ∧ Below w.heap.size w W' := by
  have HC := Hid.out hc
  have HH : Hid (∀ w, Calls Tryz.prog 211 #[A3 d0 d1 d2, I m] w fun x W' => x = .returned (I e) ∧ Below w.heap.size w W') := hc
  clear hc HC
  go_enter Tryz.func205, Tryz.ntmps205
  go_wp2_with fail
  obtain ⟨W, hW, hs, hB0, b0, b1, b2, b3⟩ := at_start w #[I d0, I d1, I d2] #[I m] #[I 0, I 0, I 0] #[I 0, I 0, I 0] 23 3 22 22
  rw [hW]
  clear hW
  refine (HH.out _).mono ?_
  rintro x w1 ⟨rfl, hB⟩
  have g2 := b2.later hB
  have g3 := b3.later hB
  have c0 := g3.cell 0
  have c1 := g3.cell 1
  have c2 := g3.cell 2
  have k0 := g2.cell 0
  have k1 := g2.cell 1
  have k2 := g2.cell 2
  have f0 := g2.frozen 0
  have f1 := g2.frozen 1
  have f2 := g2.frozen 2
  simp at c0 c1 c2 k0 k1 k2
  go_wp2
  have r2 := ((g2.set 0 (.int .i64 0)).set 1 (.int .i64 0)).set 2 (.int .i64 0)
  have r0 := r2.cell 0
  have r1 := r2.cell 1
  have r2 := r2.cell 2
  simp at r0 r1 r2
  refine bodyPost_ret (v := .tuple #[A3 0 0 0, I e]) (by simp [results, Tryz.f205, go_sem, r0, r1, r2]) rfl ⟨rfl, ?_⟩
  exact (((hB0.trans (hB.mono (by omega))).setCell (p := ⟨w.heap.size + 1 + 1, 0, none⟩) (by simp; omega) _).setCell (p := ⟨w.heap.size + 1 + 1, 1, none⟩) (by simp; omega) _).setCell (p := ⟨w.heap.size + 1 + 1, 2, none⟩) (by simp; omega) _

theorem of_bad {d0 d1 d2 : Int} (m : Int) (w : World) (hm : ¬ mayD d0 d1 d2) :
    Calls Tryz.prog 205 #[A3 d0 d1 d2, I m] w fun x W' => x = .returned (.tuple #[A3 0 0 0, I 8]) ∧ Below w.heap.size w W' :=
  of_err m 8 w (by decide) (fun w => node_bad m w hm)
theorem of_no {d0 d1 d2 m : Int} (w : World) (hm : mayD d0 d1 d2) (hn : ¬ (0 ≤ m ∧ m < d0 * d1 * d2)) :
    Calls Tryz.prog 205 #[A3 d0 d1 d2, I m] w fun x W' => x = .returned (.tuple #[A3 0 0 0, I 2]) ∧ Below w.heap.size w W' :=
  of_err m 2 w (by decide) (fun w => node_no m w hm (by simp [belowB]; omega))

set_option maxRecDepth 100000 in
set_option maxHeartbeats 2000000 in
theorem of_yes {d0 d1 d2 m : Int} (w : World) (hm : mayD d0 d1 d2) (hn : 0 ≤ m ∧ m < d0 * d1 * d2) :
    Calls Tryz.prog 205 #[A3 d0 d1 d2, I m] w fun x W' => x = .returned (.tuple #[A3 (cx d0 m) (cy d0 d1 m) (cz d0 d1 m), I 0]) ∧ Below w.heap.size w W' := by
  refine (callsIn_wide (n := 3)).1 ?_
  refine callsIn_of_wp_marks Tryz.func205 rfl trivial ?_ rfl
  simp only [Tryz.ntmps205, List.size_toArray, List.length_cons, List.length_nil, Nat.reduceAdd, Nat.reduceSub, Array.replicate_succ, Array.replicate_zero, List.push_toArray, List.append_toArray, List.nil_append, List.cons_append]
  have HN : Hid (0 ≤ m ∧ m < d0 * d1 * d2) := hn
  have hmb : 0 ≤ m ∧ m ≤ 4096 := by have := N_bd hm; omega
  clear hn
  gi_wp2_with fail
  obtain ⟨W, hW, hs, hB0, b0, b1, b2, b3⟩ := at_start w #[I d0, I d1, I d2] #[I m] #[I 0, I 0, I 0] #[I 0, I 0, I 0] 23 3 22 22
  rw [hW]
  clear hW
  refine ⟨trivial, ?_⟩
  refine (callsIn_wide.2 (node_yes m _ hm (by have := HN.out; simp [belowB, this.1, this.2]))).mono ?_
  rintro e w1 ⟨rfl, hB⟩
  have hz : w.heap.size + 4 ≤ w1.heap.size := by have := hB.size; omega
  have g0 := b0.later hB
  have g1 := b1.later hB
  have g2 := b2.later hB
  have g3 := b3.later hB
  have hB1 : Below w.heap.size w w1 := hB0.trans (hB.mono (by omega))
  clear hB b0 b1 b2 b3 hB0 hs
  have c0 := g0.cell 0
  have c1 := g0.cell 1
  have c2 := g0.cell 2
  simp at c0 c1 c2
  gi_wp2_with (refine ⟨trivial, ?_⟩; gi_at_call 120; refine (callsIn_wide.2 (axes_calls _ _ _ _)).mono ?_; rintro e w' ⟨rfl, rfl⟩)
  obtain ⟨W, hW⟩ : ∃ W, w1.alloc (.cells #[I d0, I d1, I d2] 23) = W := ⟨_, rfl⟩
  have q0 : Blk W w.heap.size 23 #[I d0, I d1, I d2] := hW ▸ g0.alloc _
  have q1 : Blk W (w.heap.size + 1) 3 #[I m] := hW ▸ g1.alloc _
  have q2 : Blk W (w.heap.size + 1 + 1) 22 #[I 0, I 0, I 0] := hW ▸ g2.alloc _
  have q3 : Blk W (w.heap.size + 1 + 1 + 1) 22 #[I 0, I 0, I 0] := hW ▸ g3.alloc _
  have q5 : Blk W w1.heap.size 23 #[I d0, I d1, I d2] := hW ▸ Blk.new w1 23 #[I d0, I d1, I d2]
  have hBW : Below w.heap.size w W := hW ▸ hB1.alloc hB1.size _
  have hsW : W.heap.size = w1.heap.size + 1 := by rw [← hW]; simp
  rw [hW]
  clear hW g0 g1 g2 g3 c0 c1 c2 hB1
  refine wpIn_axes w1.heap.size d0 d1 d2 rfl q5 rfl
    (fun pre W => (Blk W w.heap.size 23 #[I d0, I d1, I d2] ∧ Blk W (w.heap.size + 1) 3 #[I m] ∧ Blk W (w.heap.size + 1 + 1) 22 #[I 0, I 0, I 0] ∧ Blk W (w.heap.size + 1 + 1 + 1) 22 #[I (crdL d0 d1 d2 m pre 0), I (crdL d0 d1 d2 m pre 1), I (crdL d0 d1 d2 m pre 2)]) ∧ Below w.heap.size w W)
    (fun _ _ _ => False)
    (OwnFrom.and (Own.from (own_and (blk_own _ _ _) (own_and (blk_own _ _ _) (own_and (blk_own _ _ _) (blk_own _ _ _)))) _) (ownFrom_below (Nat.le_refl _) (by omega)))
    (fun _ _ _ _ _ hs _ _ => hs)
    ⟨⟨q0, q1, q2, q3⟩, hBW⟩
    (fun x => { tmps := #[A3 d0 d1 d2, I m, .pointer (some ⟨w.heap.size, 0, none⟩), .pointer (some ⟨w.heap.size + 1, 0, none⟩), .pointer (some ⟨w.heap.size + 1 + 1, 0, none⟩), .int .i64 0, .pointer (some ⟨w.heap.size + 1 + 1 + 1, 0, none⟩), I 0, .int .i64 (axI x), .int .i64 (strd d0 d1 x), A3 d0 d1 d2, I m, I 0, I 0, .bool false, undef, undef, A3 d0 d1 d2, .func (.func 153) #[] #[.pointer (some ⟨w1.heap.size, 0, none⟩)], .int .i64 (axI x), .int .i64 (strd d0 d1 x), undef, undef, undef, undef, undef, undef, undef, undef, undef, undef], defers := [] }) ?assign ?body ?done ?stop
  case assign =>
    intro l x W K hK
    gi_wp2
    exact hK
  case body =>
    clear q0 q1 q2 q3 q5 hBW hsW
    rintro l pre x W ⟨⟨q0, q1, q2, q3⟩, hB⟩ hlen
    have hmx : Tryz.prog.follows .mixedOrders = true := by kernel_rfl
    have e0 := Ext.cell q0 0
    have e1 := Ext.cell q0 1
    have e2 := Ext.cell q0 2
    have e3 := Ext.cell q1 0
    simp at e0 e1 e2 e3
    have hdx := dimAt_ok hm x
    have hsx := (strd_ok hm).2.2.2 x
    have HC : Hid ((m / strd d0 d1 x).tmod (dimAt d0 d1 d2 x) = crd d0 d1 d2 m x) := by
      show _ = _
      rw [Int.tmod_eq_emod_of_nonneg (Int.ediv_nonneg hmb.1 (by omega))]; rfl
    unfold okD at hdx
    generalize strd d0 d1 x = st at *
    obtain ⟨hst0, hst1⟩ := hsx
    obtain ⟨hd0, hd1⟩ := hdx
    obtain ⟨hm0, hm1⟩ := hmb
    rcases fin3 x with rfl | rfl | rfl
    all_goals
      simp only [axI, dimAt] at hd0 hd1 HC ⊢
      gi_wp2
      refine wpIn_region_tail 9 (loose_round _ l) hmx (by kernel_rfl) ?_
      simp only [List.take_succ_cons, List.take_zero, List.drop_succ_cons, List.drop_zero]
      repeat (go_big_quiet_step (fail))
      refine wpQuiet_nil ?_
      intro x
      have r3 := q3.later x.le
      have c0 := r3.cell 0
      have c1 := r3.cell 1
      have c2 := r3.cell 2
      have f0 := r3.frozen 0
      have f1 := r3.frozen 1
      have f2 := r3.frozen 2
      simp at c0 c1 c2
      gi_wp2
      rw [HC.out]
      refine ⟨(keeps_below x.le).trans (KeepsOthers.setCell _ _ _), trivial, ⟨(q0.later x.le).other _ _ (by omega), (q1.later x.le).other _ _ (by omega), (q2.later x.le).other _ _ (by omega), ?_⟩, (below_ext hB x).setCell (p := ⟨w.heap.size + 1 + 1 + 1, _, none⟩) (by simp; omega) _⟩
      rw [crdL_same]
      rw [crdL_other _ _ _ _ _ (by decide), crdL_other _ _ _ _ _ (by decide)]
      first
        | exact r3.set 0 _
        | exact r3.set 1 _
        | exact r3.set 2 _
  case done =>
    clear q0 q1 q2 q3 q5 hBW
    rintro D W hD ⟨⟨q0, q1, q2, q3⟩, hB⟩ hK
    have c0 := q3.cell 0
    have c1 := q3.cell 1
    have c2 := q3.cell 2
    have k0 := q2.cell 0
    have k1 := q2.cell 1
    have k2 := q2.cell 2
    have f0 := q2.frozen 0
    have f1 := q2.frozen 1
    have f2 := q2.frozen 2
    simp at c0 c1 c2 k0 k1 k2
    have hcr := crd_all hm HN.out
    have E0 : crdL d0 d1 d2 m [0, 1, 2] 0 = cx d0 m := by rw [← hcr.1]; simp [crdL]
    have E1 : crdL d0 d1 d2 m [0, 1, 2] 1 = cy d0 d1 m := by rw [← hcr.2.1]; simp [crdL]
    have E2 : crdL d0 d1 d2 m [0, 1, 2] 2 = cz d0 d1 m := by rw [← hcr.2.2]; simp [crdL]
    rw [E0] at c0
    rw [E1] at c1
    rw [E2] at c2
    clear q3 E0 E1 E2 hcr
    gi_wp2
    have hK' := (((KeepsOthers.setCell W ⟨w.heap.size + 1 + 1, 0, none⟩ (.int .i64 (cx d0 m))).trans (KeepsOthers.setCell _ ⟨w.heap.size + 1 + 1, 1, none⟩ (.int .i64 (cy d0 d1 m)))).trans (KeepsOthers.setCell _ ⟨w.heap.size + 1 + 1, 2, none⟩ (.int .i64 (cz d0 d1 m)))).same D _ hK rfl
    refine ⟨by simp, .inl ⟨_, _, rfl, run_takeDeferred hK', ?_⟩⟩
    have fin := ((((q2.set 0 (.int .i64 (cx d0 m))).set 1 (.int .i64 (cy d0 d1 m))).set 2 (.int .i64 (cz d0 d1 m))).putObj (.deferred none) hK' rfl)
    have j0 := fin.cell 0
    have j1 := fin.cell 1
    have j2 := fin.cell 2
    simp at j0 j1 j2
    refine ⟨.tuple #[A3 (cx d0 m) (cy d0 d1 m) (cz d0 d1 m), I 0], ?_, rfl, below_put _ (((hB.setCell (p := ⟨w.heap.size + 1 + 1, 0, none⟩) (by simp; omega) _).setCell (p := ⟨w.heap.size + 1 + 1, 1, none⟩) (by simp; omega) _).setCell (p := ⟨w.heap.size + 1 + 1, 2, none⟩) (by simp; omega) _) (by omega) hK'⟩
    simp [results, Tryz.f205, go_sem, j0, j1, j2]
  case stop =>
    rintro D c pre W _ _ h _
    exact h.elim

end Go.Proofs.YtldcagjnngkabaaGreatDoor

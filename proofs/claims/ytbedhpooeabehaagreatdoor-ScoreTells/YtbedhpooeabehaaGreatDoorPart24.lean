/-
  The statement ScoreTells, walked. (Written by tools/gen/law_score_tells.py.)
-/
import Derived.Test.YtbedhpooeabehaaGreatDoorPart18
import Derived.Test.YtbedhpooeabehaaGreatDoorPart23
import Derived.Test.YtbedhpooeabehaaGreatDoorPart1
import Derived.Test.YtbedhpooeabehaaGreatDoorRows
import Derived.ProofKit
import Derived.OpenShut
import Derived.ChangeOld
import Derived.Below
import Derived.Laws.IdiomArrays
import Derived.Test.YtbedhpooeabehaaGreatDoorPart15
import Derived.ChangeSame
import Derived.ChangeArms
import Derived.ChangeSlices
import Derived.Test.YtbedhpooeabehaaGreatDoorPart6
import Derived.LaidMore
import Derived.Stop.Joined
import Derived.Lib.LaidTab
import Derived.SevenTiedAt
namespace Go.Proofs.YtbedhpooeabehaaGreatDoor
open Go Go.RowKit Go.Shelf

attribute [local go_sem] Oper.semAt_some ext_const

set_option maxRecDepth 100000 in
set_option maxHeartbeats 16000000 in
theorem scoreTells_walk (d0 d1 d2 : Int) (bx : Bx) (t0 t1 t2 : Bool) (w : World) (hTab : TabOk w) {va vb : Value} {a b : List Nat} (ha0 : ArgW w va a) (hb0 : ArgW w vb b) :
    Calls Tryz.prog 3 #[A3 d0 d1 d2, va, vb, P9 bx t0 t1 t2] w fun e W' => e = .returned (.bool true) ∧ Below w.heap.size w W' := by
  have H1 : Hid (∀ w1, Below w.heap.size w w1 → Calls Tryz.prog 4 #[A3 d0 d1 d2, va, vb] w1 fun e W' => e = .returned (.tuple #[I (opV d0 d1 d2 a b), I (errK d0 d1 d2 [a, b])]) ∧ Below w1.heap.size w1 W') := fun w1 h => sopen_calls d0 d1 d2 w1 (hTab.below h hTab.lt) (ha0.1.later h) (hb0.1.later h)
  have H2 : Hid (∀ w1, Below w.heap.size w w1 → Calls Tryz.prog 5 #[A3 d0 d1 d2, va, vb] w1 fun e W' => e = .returned (.tuple #[I (opV d0 d1 d2 a b), I (errK d0 d1 d2 [a, b])]) ∧ Below w1.heap.size w1 W') := fun w1 h => ropen_calls d0 d1 d2 w1 (ha0.1.later h) (hb0.1.later h)
  have H3 : Hid (∀ w1, Below w.heap.size w w1 → Calls Tryz.prog 6 #[A3 d0 d1 d2, P9 bx t0 t1 t2, va] w1 fun e W' => e = .returned (.tuple #[I (ofV d0 d1 d2 bx t0 t1 t2 a), I (ofE d0 d1 d2 bx t0 t1 t2 a)]) ∧ Below w1.heap.size w1 W') := fun w1 h => sof_calls d0 d1 d2 bx t0 t1 t2 w1 (hTab.below h hTab.lt) (ha0.1.later h)
  have H4 : Hid (∀ w1, Below w.heap.size w w1 → Calls Tryz.prog 7 #[A3 d0 d1 d2, P9 bx t0 t1 t2, va] w1 fun e W' => e = .returned (.tuple #[I (ofV d0 d1 d2 bx t0 t1 t2 a), I (ofE d0 d1 d2 bx t0 t1 t2 a)]) ∧ Below w1.heap.size w1 W') := fun w1 h => rscof_calls d0 d1 d2 bx t0 t1 t2 w1 (ha0.1.later h)
  have H5 : Hid (∀ w1, Below w.heap.size w w1 → Calls Tryz.prog 8 #[A3 d0 d1 d2, va] w1 fun e W' => e = .returned (.tuple #[I (spV d0 d1 d2 a), I (errK d0 d1 d2 [a])]) ∧ Below w1.heap.size w1 W') := fun w1 h => spread_calls d0 d1 d2 w1 (hTab.below h hTab.lt) (ha0.1.later h)
  have H6 : Hid (∀ w1, Below w.heap.size w w1 → Calls Tryz.prog 9 #[A3 d0 d1 d2, va] w1 fun e W' => e = .returned (.tuple #[I (spV d0 d1 d2 a), I (errK d0 d1 d2 [a])]) ∧ Below w1.heap.size w1 W') := fun w1 h => rspread_calls d0 d1 d2 w1 (ha0.1.later h)
  have hE : ∀ wss, 0 ≤ errK d0 d1 d2 wss ∧ errK d0 d1 d2 wss ≤ 8 := fun wss => by rcases errK_cases d0 d1 d2 wss with h | h <;> rw [h] <;> decide
  have hE1 := hE [a, b]
  have hE2 := hE [a]
  have hE3 : 0 ≤ ofE d0 d1 d2 bx t0 t1 t2 a ∧ ofE d0 d1 d2 bx t0 t1 t2 a ≤ 8 := by
    unfold ofE
    split
    · rcases errP_cases d0 d1 d2 bx t0 t1 t2 with ⟨_, _, h⟩ | ⟨h | h, _⟩ <;> rw [h] <;> decide
    · decide
  obtain ⟨ao, ca, rfl, _⟩ := ha0.1.view
  obtain ⟨bo, cb, rfl, _⟩ := hb0.1.view
  clear ha0 hb0 hTab hE
  generalize opV d0 d1 d2 a b = x at *
  generalize errK d0 d1 d2 [a, b] = e1' at *
  generalize ofV d0 d1 d2 bx t0 t1 t2 a = y at *
  generalize ofE d0 d1 d2 bx t0 t1 t2 a = e2' at *
  generalize spV d0 d1 d2 a = z at *
  generalize errK d0 d1 d2 [a] = e3' at *
  generalize a.length = na at *
  generalize b.length = nb at *
  obtain ⟨wz, hwz, hT, b0, b1⟩ := two_start w #[I d0, I d1, I d2] (C9 bx t0 t1 t2) 23 30
  have HWz : Hid ((w.alloc (.cells #[I d0, I d1, I d2] 23)).alloc (.cells (C9 bx t0 t1 t2) 30) = wz) := hwz
  rw [← hwz] at b0
  obtain ⟨e0, e1, e2, ez⟩ := b0.three (Below.refl _ _)
  rw [hwz] at b0
  clear hwz
  rcases (show (100 : Int) < (na : Int) ∨ (¬ (100 : Int) < (na : Int) ∧ (100 : Int) < (nb : Int)) ∨ (¬ (100 : Int) < (na : Int) ∧ ¬ (100 : Int) < (nb : Int)) by omega) with hl | ⟨hla, hl⟩ | ⟨hla, hlb⟩
  · clear e0 e1 e2 ez b0 b1
    go_enter Tryz.func3, Tryz.ntmps3
    go_wp2_with fail
    rw [HWz.out]
    go_wp2
    go_ret
    exact ⟨rfl, hT⟩
  · clear e0 e1 e2 ez b0 b1
    go_enter Tryz.func3, Tryz.ntmps3
    go_wp2_with fail
    rw [HWz.out]
    go_wp2
    go_ret
    exact ⟨rfl, hT⟩
  go_enter Tryz.func3, Tryz.ntmps3
  go_wp2_with fail
  rw [HWz.out]
  refine (H1.out _ hT).mono ?_
  rintro e w1 ⟨rfl, hB⟩
  replace b0 := b0.later hB
  replace b1 := b1.later hB
  replace hT := then_below hT hB
  clear hB e0 e1 e2 ez H1 HWz hla hlb
  obtain ⟨e0, e1, e2, ez⟩ := b0.three (Below.refl _ _)
  go_wp2_with fail
  refine (H2.out _ hT).mono ?_
  rintro e w2 ⟨rfl, hB⟩
  replace b0 := b0.later hB
  replace b1 := b1.later hB
  replace hT := then_below hT hB
  clear hB e0 e1 e2 ez H2
  obtain ⟨e0, e1, e2, ez⟩ := b0.three (Below.refl _ _)
  obtain ⟨⟨x0, x1, x2⟩, ⟨x3, x4, x5⟩, ⟨x6, x7, x8⟩, xz⟩ := b1.nine (Below.refl _ _)
  go_wp2_with fail
  refine (H3.out _ hT).mono ?_
  rintro e w3 ⟨rfl, hB⟩
  replace b0 := b0.later hB
  replace b1 := b1.later hB
  replace hT := then_below hT hB
  clear hB e0 e1 e2 ez x0 x1 x2 x3 x4 x5 x6 x7 x8 xz H3
  obtain ⟨e0, e1, e2, ez⟩ := b0.three (Below.refl _ _)
  obtain ⟨⟨x0, x1, x2⟩, ⟨x3, x4, x5⟩, ⟨x6, x7, x8⟩, xz⟩ := b1.nine (Below.refl _ _)
  go_wp2_with fail
  refine (H4.out _ hT).mono ?_
  rintro e w4 ⟨rfl, hB⟩
  replace b0 := b0.later hB
  replace b1 := b1.later hB
  replace hT := then_below hT hB
  clear hB e0 e1 e2 ez x0 x1 x2 x3 x4 x5 x6 x7 x8 xz H4
  obtain ⟨e0, e1, e2, ez⟩ := b0.three (Below.refl _ _)
  go_wp2_with fail
  refine (H5.out _ hT).mono ?_
  rintro e w5 ⟨rfl, hB⟩
  replace b0 := b0.later hB
  replace b1 := b1.later hB
  replace hT := then_below hT hB
  clear hB e0 e1 e2 ez H5
  obtain ⟨e0, e1, e2, ez⟩ := b0.three (Below.refl _ _)
  go_wp2_with fail
  refine (H6.out _ hT).mono ?_
  rintro e w6 ⟨rfl, hB⟩
  replace b0 := b0.later hB
  replace b1 := b1.later hB
  replace hT := then_below hT hB
  clear hB e0 e1 e2 ez H6
  clear b0 b1
  go_wp2
  go_ret
  exact ⟨rfl, hT⟩

end Go.Proofs.YtbedhpooeabehaaGreatDoor

/-
  How the arguments of this seat's statements are opened: whole numbers, and rows of three of them.
-/
namespace Go.Proofs.YtbedhpooeabehaaGreatDoor
open Go.ChangeShapes Go.WideShapes Go.ChangeAt Go.RowKit

theorem own : ownKnob Tryz.prog.godebug = none := by kernel_rfl
theorem laidOut : laidOutB Tryz.prog = true := by kernel_rfl

theorem list3 {α : Type} (l : List α) (h : (⟨l⟩ : Array α).size = 3) : ∃ a b c, l = [a, b, c] := by
  match l, h with
  | [a, b, c], _ => exact ⟨a, b, c, rfl⟩

/-- A row of three whole numbers, by value. -/
theorem open_arr3 {P : Program} {w : World} {H : Type} {enc : TypeId × Value → H} {r : Reach} {b0 base : Nat} {spare : Nat → Bool} {held : Bool} {t e : TypeId} {v : Value} {d : DataW H} {p : List MemPlace}
    (ht : P.underlying t = some (.array 3 e)) (he : P.underlying e = some (.int .i64)) (hce : P.cellsOf e = 1) (hct : P.cellsOf t = 3)
    (hv : Value.okWide P w r b0 t v) (h : DataW.Trod enc P w base spare held t v d p) :
    ∃ a b c : Int, v = A3 a b c ∧ (Lit.int .i64 a).wf = true ∧ (Lit.int .i64 b).wf = true ∧ (Lit.int .i64 c).wf = true := by
  obtain ⟨cs, rfl, hsz, _⟩ : ∃ cs, v = .agg cs ∧ cs.size = P.cellsOf t ∧ Row.okWide P w r b0 t cs := by
    simpa [Value.okWide, ht] using hv
  rw [hct] at hsz
  obtain ⟨l⟩ := cs
  obtain ⟨c0, c1, c2, rfl⟩ := list3 l hsz
  obtain ⟨fuel, hf⟩ := h
  obtain ⟨y0, y1, y2, m, hx, hy0, hy1, hy2⟩ := trod_array3 ht hce hf
  obtain ⟨x0, e0, rfl, w0⟩ := DataW.trod_int he hy0
  obtain ⟨x1, e1, rfl, w1⟩ := DataW.trod_int he hy1
  obtain ⟨x2, e2, rfl, w2⟩ := DataW.trod_int he hy2
  simp at e0 e1 e2
  subst e0 e1 e2
  exact ⟨x0, x1, x2, rfl, w0, w1, w2⟩

theorem open_num {P : Program} {w : World} {H : Type} {enc : TypeId × Value → H} {r : Reach} {b0 base : Nat} {spare : Nat → Bool} {held : Bool} {t : TypeId} {k : IntKind} {v : Value} {d : DataW H} {p : List MemPlace}
    (ht : P.underlying t = some (.int k)) (hv : Value.okWide P w r b0 t v) (h : DataW.Trod enc P w base spare held t v d p) :
    ∃ a : Int, v = .int k a ∧ (Lit.int k a).wf = true := by
  obtain ⟨x, rfl, rfl, rfl, wx⟩ := open_int ht hv h
  exact ⟨x, rfl, wx⟩

theorem trod_lt' {H : Type} {enc : TypeId × Value → H} {P : Program} {W : World} {t : TypeId} {v : Value} {d : DataW H} {ps : List MemPlace} {sp : Nat → Bool} (h : DataW.Trod enc P W 0 sp true t v d ps) : ∀ x ∈ ps, x.block < W.heap.size := by
  obtain ⟨m, hm⟩ := h; exact DataW.trod_lt m _ _ _ hm

end Go.Proofs.YtbedhpooeabehaaGreatDoor

/-
  How a place among a statement's arguments is opened: a box's six whole numbers, and three tori.
-/
namespace Go.Proofs.YtbedhpooeabehaaGreatDoor
open Go.ChangeShapes Go.WideShapes Go.ChangeAt Go.RowKit

theorem list9 {α : Type} (l : List α) (h : (⟨l⟩ : Array α).size = 9) : ∃ a b c d e f g i j, l = [a, b, c, d, e, f, g, i, j] := by
  match l, h with
  | [a, b, c, d, e, f, g, i, j], _ => exact ⟨a, b, c, d, e, f, g, i, j, rfl⟩

set_option maxRecDepth 100000 in
theorem open_place {w : World} {H : Type} {enc : TypeId × Value → H} {r : Reach} {b0 base : Nat} {spare : Nat → Bool} {held : Bool} {v : Value} {d : DataW H} {p : List MemPlace}
    (hv : Value.okWide Tryz.prog w r b0 30 v) (h : DataW.Trod enc Tryz.prog w base spare held 30 v d p) : ∃ (b : Bx) (t0 t1 t2 : Bool), v = P9 b t0 t1 t2 := by
  obtain ⟨f0, f1, hu, t0, o0, t1, o1⟩ : ∃ f0 f1, Tryz.prog.underlying 30 = some (.struct #[f0, f1]) ∧ f0.type = 27 ∧ f0.offset = 0 ∧ f1.type = 28 ∧ f1.offset = 6 := ⟨_, _, rfl, rfl, rfl, rfl, rfl⟩
  obtain ⟨s0, s1, hs, q0, r0, q1, r1⟩ : ∃ f0 f1, Tryz.prog.underlying 27 = some (.struct #[f0, f1]) ∧ f0.type = 22 ∧ f0.offset = 0 ∧ f1.type = 22 ∧ f1.offset = 3 := ⟨_, _, rfl, rfl, rfl, rfl, rfl⟩
  obtain ⟨cs, rfl, hsz, _⟩ : ∃ cs, v = .agg cs ∧ cs.size = Tryz.prog.cellsOf 30 ∧ Row.okWide Tryz.prog w r b0 30 cs := by
    simpa [Value.okWide, hu] using hv
  have hct : Tryz.prog.cellsOf 30 = 9 := by kernel_rfl
  rw [hct] at hsz
  obtain ⟨l⟩ := cs
  obtain ⟨c0, c1, c2, c3, c4, c5, c6, c7, c8, rfl⟩ := list9 l hsz
  obtain ⟨fuel, hf⟩ := h
  obtain ⟨x, y, n, _, _, h0, h1⟩ := trod_struct2 hu hf
  have hc6 : Tryz.prog.cellsOf 27 = 6 := by kernel_rfl
  have hc3 : Tryz.prog.cellsOf 22 = 3 := by kernel_rfl
  have hc3' : Tryz.prog.cellsOf 28 = 3 := by kernel_rfl
  have hc1 : Tryz.prog.cellsOf 3 = 1 := by kernel_rfl
  have hc1' : Tryz.prog.cellsOf 4 = 1 := by kernel_rfl
  rw [t0, o0, hc6] at h0
  rw [t1, o1, hc3'] at h1
  have h0 : DataW.trod enc Tryz.prog w base spare held n 27 [c0, c1, c2, c3, c4, c5] = some x := h0
  have h1 : DataW.trod enc Tryz.prog w base spare held n 28 [c6, c7, c8] = some y := h1
  obtain ⟨x', y', n', _, _, h2, h3⟩ := trod_struct2 hs h0
  rw [q0, r0, hc3] at h2
  rw [q1, r1, hc3] at h3
  have h2 : DataW.trod enc Tryz.prog w base spare held n' 22 [c0, c1, c2] = some x' := h2
  have h3 : DataW.trod enc Tryz.prog w base spare held n' 22 [c3, c4, c5] = some y' := h3
  obtain ⟨_, _, _, m, _, g0, g1, g2⟩ := trod_array3 Tryz.underlying22 hc1 h2
  obtain ⟨_, _, _, m', _, g3, g4, g5⟩ := trod_array3 Tryz.underlying22 hc1 h3
  obtain ⟨_, _, _, m'', _, g6, g7, g8⟩ := trod_array3 Tryz.underlying28 hc1' h1
  obtain ⟨x0, e0, _, _⟩ := DataW.trod_int Tryz.underlying3 g0
  obtain ⟨x1, e1, _, _⟩ := DataW.trod_int Tryz.underlying3 g1
  obtain ⟨x2, e2, _, _⟩ := DataW.trod_int Tryz.underlying3 g2
  obtain ⟨x3, e3, _, _⟩ := DataW.trod_int Tryz.underlying3 g3
  obtain ⟨x4, e4, _, _⟩ := DataW.trod_int Tryz.underlying3 g4
  obtain ⟨x5, e5, _, _⟩ := DataW.trod_int Tryz.underlying3 g5
  obtain ⟨y6, e6, _⟩ := DataW.trod_bool Tryz.underlying4 g6
  obtain ⟨y7, e7, _⟩ := DataW.trod_bool Tryz.underlying4 g7
  obtain ⟨y8, e8, _⟩ := DataW.trod_bool Tryz.underlying4 g8
  simp at e0 e1 e2 e3 e4 e5 e6 e7 e8
  subst e0 e1 e2 e3 e4 e5 e6 e7 e8
  exact ⟨⟨x0, x1, x2, x3, x4, x5⟩, y6, y7, y8, rfl⟩

end Go.Proofs.YtbedhpooeabehaaGreatDoor

/-
  How a set, and a list of whole numbers, among a statement's arguments is opened.
-/
namespace Go.Proofs.YtbedhpooeabehaaGreatDoor
open Go Go.ChangeShapes Go.WideShapes Go.ChangeAt Go.RowKit

theorem spot_none {w : World} {a : Addr} {v : Value} (h : w.cell? a = some v) : a.spot = none := by
  unfold World.cell? at h
  split at h
  · split at h
    · cases h
    · rename_i hs
      cases hq : a.spot
      · rfl
      · rw [hq] at hs; exact absurd rfl hs
  · cases h
theorem block_lt {w : World} {a : Addr} {v : Value} (h : w.cell? a = some v) : a.block < w.heap.size := by
  unfold World.cell? at h
  split at h
  · rename_i hs
    exact (Array.getElem?_eq_some_iff.1 hs).1
  · cases h

set_option maxRecDepth 100000 in
/-- A slice of numbers of one kind, as it came in. -/
theorem open_row_of {P : Program} {w : World} {H : Type} {enc : TypeId × Value → H} {r : Reach} {b0 base : Nat} {spare : Nat → Bool} {held : Bool} {t e : TypeId} {k : IntKind} {v : Value} {d : DataW H} {p : List MemPlace}
    (ht : P.underlying t = some (.slice e)) (he : P.underlying e = some (.int k)) (hc : P.cellsOf e = 1)
    (hv : Value.okWide P w r b0 t v) (h : DataW.Trod enc P w base spare held t v d p) :
    ∃ zs : List Int, (∀ z ∈ zs, (Lit.int k z).wf = true) ∧ Sl w v (zs.map (Value.int k)) ∧ (v = .slice none 0 0 ∧ zs = [] ∨ ∃ ad cap, v = .slice (some ad) zs.length cap) := by
  obtain ⟨a, len, cap, rfl⟩ := okWide_slice ht hv
  obtain ⟨fuel, hf⟩ := h
  rcases open_ints ht he hc hf with ⟨hcs, -⟩ | ⟨a0, len0, cap0, zs, hcs, _, hl, _, hz, _, hcell, hwf⟩
  · have e0 : Value.slice a len cap = .slice none 0 0 := by
      have : [Value.slice a len cap] = [.slice none 0 0] := hcs
      exact List.head_eq_of_cons_eq this
    rw [e0]
    exact ⟨[], fun _ h => (by cases h), Sl.nil w, .inl ⟨rfl, rfl⟩⟩
  · have e0 : Value.slice a len cap = .slice (some a0) len0 cap0 := by
      have : [Value.slice a len cap] = [.slice (some a0) len0 cap0] := hcs
      exact List.head_eq_of_cons_eq this
    rw [e0]
    have hlz : len0 ≤ zs.length := by rw [hz]; split <;> omega
    have hlt : (zs.take len0).length = len0 := by simp [hlz]
    refine ⟨zs.take len0, fun z hz' => hwf z (List.mem_of_mem_take hz'), ⟨some a0, cap0, by simp [hlz], fun i hi => ?_⟩, .inr ⟨a0, cap0, by rw [hlt]⟩⟩
    rw [List.length_map, hlt] at hi
    have hi2 : i < zs.length := by omega
    have c0 := hcell i hi2
    have cc := hcell 0 (by omega)
    obtain ⟨g, off, sp⟩ := a0
    have hs : sp = none := by
      have := spot_none cc
      simpa [Addr.add] using this
    subst hs
    have ea : (⟨g, off, none⟩ : Addr).add i = ⟨g, off + i, none⟩ := by
      unfold Addr.add
      split
      · rename_i h0; subst h0; rfl
      · rfl
    rw [ea] at c0
    exact ⟨g, off, rfl, block_lt c0, by rw [c0]; simp [hi, hi2]⟩

theorem word_of {z : Int} (h : (Lit.int .u64 z).wf = true) : 0 ≤ z ∧ z < 18446744073709551616 := by
  unfold Lit.wf at h
  simp [IntKind.min, IntKind.max, IntKind.signed, IntKind.bits] at h
  omega

set_option maxRecDepth 100000 in
theorem open_set {w : World} {H : Type} {enc : TypeId × Value → H} {r : Reach} {b0 base : Nat} {spare : Nat → Bool} {held : Bool} {v : Value} {d : DataW H} {p : List MemPlace}
    (hv : Value.okWide Tryz.prog w r b0 25 v) (h : DataW.Trod enc Tryz.prog w base spare held 25 v d p) : ∃ ws : List Nat, ArgW w v ws := by
  obtain ⟨zs, hw, hs, hc⟩ := open_row_of Tryz.underlying25 Tryz.underlying80 (by kernel_rfl) hv h
  have e : (zs.map Int.toNat).map U = zs.map (Value.int .u64) := by
    rw [List.map_map]
    apply List.map_congr_left
    intro z hz
    have := word_of (hw z hz)
    show Value.int .u64 ((z.toNat : Nat) : Int) = _
    rw [Int.toNat_of_nonneg this.1]
  refine ⟨zs.map Int.toNat, ⟨fun x hx => ?_, by rw [e]; exact hs⟩, ?_⟩
  · obtain ⟨z, hz, rfl⟩ := List.mem_map.1 hx
    have := word_of (hw z hz)
    omega
  · rcases hc with ⟨rfl, _⟩ | ⟨ad, cap, rfl⟩
    · exact .inl rfl
    · exact .inr ⟨ad, cap, by simp⟩

set_option maxRecDepth 100000 in
theorem open_list {w : World} {H : Type} {enc : TypeId × Value → H} {r : Reach} {b0 base : Nat} {spare : Nat → Bool} {held : Bool} {v : Value} {d : DataW H} {p : List MemPlace}
    (hv : Value.okWide Tryz.prog w r b0 57 v) (h : DataW.Trod enc Tryz.prog w base spare held 57 v d p) : ∃ xs : List Int, ArgI w v xs ∧ ∀ x ∈ xs, (Lit.int .i64 x).wf = true := by
  obtain ⟨zs, hw, hs, hc⟩ := open_row_of Tryz.underlying57 Tryz.underlying3 (by kernel_rfl) hv h
  refine ⟨zs, ⟨hs, ?_⟩, hw⟩
  rcases hc with ⟨rfl, _⟩ | h
  · exact .inl rfl
  · exact .inr h

end Go.Proofs.YtbedhpooeabehaaGreatDoor

/-
  What the statements that list math/bits' table ask ahead of a walk: the table lies in its variable, as the condition says.
-/
namespace Go.Proofs.YtbedhpooeabehaaGreatDoor
open Go Go.ChangeShapes Go.WideShapes Go.ChangeAt Go.RowKit

def tabLaid : List (String × DataW Unit) := [("math/bits.deBruijn64tab", Rows.laid_math_bits_deBruijn64tab)]

theorem tab_named : Tryz.prog.globalNamed "math/bits.deBruijn64tab" = some 0 := by kernel_rfl
theorem tab_type : (Tryz.prog.globals[0]?).map (·.type) = some 120 := by kernel_rfl

/-- The heap that the program's own start leaves meets the condition. -/
theorem door_met (os : Os) (args : Array Value) : laidMetH Tryz.prog tabLaid ((World.doorLaid Tryz.prog 14 os).forCall (fun _ _ => 0) ⟨#[], args, []⟩).memory :=
  laidMetH_of_parts3 (fuel := 8) (laidMet_of_run' 8 (by kernel_rfl) (by kernel_rfl)) (by kernel_rfl) (by kernel_rfl)

theorem tab_datum : (Rows.laid_math_bits_deBruijn64tab : DataW Unit) = Lib.tabData .u8 (ofN Lib.deBruijn64tab) := rfl

theorem tab_of {W : World} (h : laidMetH Tryz.prog tabLaid W) : TabOk W := by
  rw [MakeChecks.laidMetH_plain _ _ _ (by kernel_rfl)] at h
  unfold tabLaid at h
  rw [tab_datum] at h
  have hT := Lib.tabIs_of_head tab_named tab_type Tryz.underlying120 Tryz.underlying5 (by kernel_rfl) (by kernel_rfl) h
  intro j hj
  have := hT.cell tab_named j (by rw [ofN_len]; exact hj)
  rw [this, ofN_get]

/-- No parameter's type asks for a stand-in. -/
theorem noS_stand_in (ts : Array TypeId) (h : (ts.toList.all fun t => !Tryz.prog.wantsStandIn t) = true) (j : Nat) (t : TypeId) (ht : ts[j]? = some t) : Tryz.prog.wantsStandIn t = false := by
  have hm : t ∈ ts.toList := by
    obtain ⟨hlt, he⟩ := Array.getElem?_eq_some_iff.1 ht
    rw [← he]
    exact Array.getElem_mem_toList hlt
  have := List.all_eq_true.1 h t hm
  simpa using this

end Go.Proofs.YtbedhpooeabehaaGreatDoor

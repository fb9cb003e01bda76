/-
  The statement PlaceApart, walked.
-/
import Derived.Test.YtbobfhoimhambaaPart21
import Derived.Test.YtbobfhoimhambaaPart1
import Derived.Test.YtbobfhoimhambaaRows
import Derived.ProofKit
import Derived.OpenShut
import Derived.ChangeOld
import Derived.Below
import Derived.Laws.IdiomArrays
import Derived.Test.YtbobfhoimhambaaPart16
import Derived.ChangeSame
import Derived.ChangeArms
namespace Go.Proofs.Ytbobfhoimhambaa
open Go Go.RowKit Go.Shelf

attribute [local go_sem] Oper.semAt_some ext_const

set_option maxRecDepth 100000 in
set_option maxHeartbeats 8000000 in
theorem placeApart_err {d0 d1 d2 : Int} {a : Bx} {s0 s1 s2 : Bool} {b : Bx} {t0 t1 t2 : Bool} {e1 e2 : Int} (w : World) (he : (e1 != 0) = true)
    (HA : ∀ w, Calls Try.prog 5 #[A3 d0 d1 d2, P9 a s0 s1 s2, P9 b t0 t1 t2] w fun e W' => e = .returned (.tuple #[.bool false, I e1]) ∧ Below w.heap.size w W')
    (HB : ∀ w, Calls Try.prog 5 #[A3 d0 d1 d2, P9 b t0 t1 t2, P9 a s0 s1 s2] w fun e W' => e = .returned (.tuple #[.bool false, I e2]) ∧ Below w.heap.size w W') :
    Calls Try.prog 3 #[A3 d0 d1 d2, P9 a s0 s1 s2, P9 b t0 t1 t2] w fun e W' => e = .returned (.bool true) ∧ Below w.heap.size w W' := by
  go_enter Try.func3, Try.ntmps3
  go_wp2_with fail
  obtain ⟨W, hW, hs, hB0, b0, b1, b2⟩ := three_start w #[I d0, I d1, I d2] (C9 a s0 s1 s2) (C9 b t0 t1 t2) 23 28 28
  rw [hW]
  clear hW
  refine (aliveP_calls _).mono ?_
  rintro e w1 ⟨rfl, hT⟩
  obtain ⟨c0, c1, c2, hz⟩ := b0.three hT
  obtain ⟨⟨x0, x1, x2⟩, ⟨x3, x4, x5⟩, ⟨x6, x7, x8⟩, hz1⟩ := b1.nine hT
  obtain ⟨⟨y0, y1, y2⟩, ⟨y3, y4, y5⟩, ⟨y6, y7, y8⟩, hz2⟩ := b2.nine hT
  go_wp2_with fail
  refine (HA _).mono ?_
  rintro e w2 ⟨rfl, hT2⟩
  have hT := then_below hT hT2
  clear hT2 c0 c1 c2 hz x0 x1 x2 x3 x4 x5 x6 x7 x8 hz1 y0 y1 y2 y3 y4 y5 y6 y7 y8 hz2
  obtain ⟨c0, c1, c2, hz⟩ := b0.three hT
  obtain ⟨⟨x0, x1, x2⟩, ⟨x3, x4, x5⟩, ⟨x6, x7, x8⟩, hz1⟩ := b1.nine hT
  obtain ⟨⟨y0, y1, y2⟩, ⟨y3, y4, y5⟩, ⟨y6, y7, y8⟩, hz2⟩ := b2.nine hT
  go_wp2_with fail
  refine (HB _).mono ?_
  rintro e w3 ⟨rfl, hT2⟩
  go_wp2
  go_ret
  exact ⟨rfl, then_below hB0 (then_below hT hT2)⟩

theorem Blk.tail3 {W : World} {B : Nat} {t : TypeId} {b : Bx} {p q r : Bool} (h : Blk W B t (C9 b p q r)) : Blk (((W.setCell ⟨B, 6, none⟩ (.bool false)).setCell ⟨B, 7, none⟩ (.bool false)).setCell ⟨B, 8, none⟩ (.bool false)) B t (C9 b false false false) :=
  ((h.set 6 (.bool false)).set 7 (.bool false)).set 8 (.bool false)
theorem Blk.other3 {W : World} {B B' : Nat} {t : TypeId} {vs : Array Value} (h : Blk W B t vs) (hne : B ≠ B') : Blk (((W.setCell ⟨B', 6, none⟩ (.bool false)).setCell ⟨B', 7, none⟩ (.bool false)).setCell ⟨B', 8, none⟩ (.bool false)) B t vs :=
  ((h.other 6 _ hne).other 7 _ hne).other 8 _ hne
theorem below_tail3 {n : Nat} {w W : World} {B : Nat} (h : Below n w W) (hn : n ≤ B) : Below n w (((W.setCell ⟨B, 6, none⟩ (.bool false)).setCell ⟨B, 7, none⟩ (.bool false)).setCell ⟨B, 8, none⟩ (.bool false)) :=
  ((h.setCell (p := ⟨B, 6, none⟩) hn _).setCell (p := ⟨B, 7, none⟩) hn _).setCell (p := ⟨B, 8, none⟩) hn _

set_option maxRecDepth 100000 in
set_option maxHeartbeats 8000000 in
theorem placeApart_ok {d0 d1 d2 : Int} {a : Bx} {s0 s1 s2 : Bool} {b : Bx} {t0 t1 t2 : Bool} (w : World) (hm : mayD d0 d1 d2) (ha : mayP d0 d1 d2 a s0 s1 s2) (hb : mayP d0 d1 d2 b t0 t1 t2) :
    Calls Try.prog 3 #[A3 d0 d1 d2, P9 a s0 s1 s2, P9 b t0 t1 t2] w fun e W' => e = .returned (.bool true) ∧ Below w.heap.size w W' := by
  have HA : Hid (∀ w, Calls Try.prog 5 #[A3 d0 d1 d2, P9 a s0 s1 s2, P9 b t0 t1 t2] w fun e W' => e = .returned (.tuple #[.bool (apartB d0 d1 d2 a s0 s1 s2 b t0 t1 t2), I 0]) ∧ Below w.heap.size w W') := fun w => apart_ok w hm ha hb
  have HB : Hid (∀ w, Calls Try.prog 5 #[A3 d0 d1 d2, P9 b t0 t1 t2, P9 a s0 s1 s2] w fun e W' => e = .returned (.tuple #[.bool (apartB d0 d1 d2 a s0 s1 s2 b t0 t1 t2), I 0]) ∧ Below w.heap.size w W') := fun w => by have := apart_ok w hm hb ha; rwa [apart_sym] at this
  have HS : Hid (∀ w, Calls Try.prog 5 #[A3 d0 d1 d2, P9 a s0 s1 s2, P9 a s0 s1 s2] w fun e W' => e = .returned (.tuple #[.bool false, I 0]) ∧ Below w.heap.size w W') := fun w => by have := apart_ok w hm ha ha; rwa [apart_self hm ha.1] at this
  have HF : Hid (∀ w, Calls Try.prog 5 #[A3 d0 d1 d2, P9 a false false false, P9 b false false false] w fun e W' => e = .returned (.tuple #[.bool (!meetB d0 d1 d2 a b), I 0]) ∧ Below w.heap.size w W') := fun w => by have := apart_ok w hm (mesh_may ha) (mesh_may hb); rwa [apart_mesh hm ha.1 hb.1] at this
  have HM : Hid (∀ w, Calls Try.prog 6 #[A3 d0 d1 d2, B6 a, B6 b] w fun e W' => e = .returned (.tuple #[.bool (meetB d0 d1 d2 a b), I 0]) ∧ Below w.heap.size w W') := fun w => bmeet_ok w hm ha.1 hb.1
  have HX : Hid ((!meetB d0 d1 d2 a b || !apartB d0 d1 d2 a s0 s1 s2 b t0 t1 t2) = true) := apart_meet hm ha.1 hb.1
  generalize meetB d0 d1 d2 a b = mt at *
  generalize apartB d0 d1 d2 a s0 s1 s2 b t0 t1 t2 = ap at *
  clear hm ha hb
  go_enter Try.func3, Try.ntmps3
  go_wp2_with fail
  obtain ⟨W, hW, hs, hB0, b0, b1, b2⟩ := three_start w #[I d0, I d1, I d2] (C9 a s0 s1 s2) (C9 b t0 t1 t2) 23 28 28
  rw [hW]
  clear hW
  refine (aliveP_calls _).mono ?_
  rintro e w1 ⟨rfl, hT⟩
  obtain ⟨c0, c1, c2, hz⟩ := b0.three hT
  obtain ⟨⟨x0, x1, x2⟩, ⟨x3, x4, x5⟩, ⟨x6, x7, x8⟩, hz1⟩ := b1.nine hT
  obtain ⟨⟨y0, y1, y2⟩, ⟨y3, y4, y5⟩, ⟨y6, y7, y8⟩, hz2⟩ := b2.nine hT
  go_wp2_with fail
  refine (HA.out _).mono ?_
  rintro e w2 ⟨rfl, hT2⟩
  have hT := then_below hT hT2
  clear hT2 c0 c1 c2 hz x0 x1 x2 x3 x4 x5 x6 x7 x8 hz1 y0 y1 y2 y3 y4 y5 y6 y7 y8 hz2
  obtain ⟨c0, c1, c2, hz⟩ := b0.three hT
  obtain ⟨⟨x0, x1, x2⟩, ⟨x3, x4, x5⟩, ⟨x6, x7, x8⟩, hz1⟩ := b1.nine hT
  obtain ⟨⟨y0, y1, y2⟩, ⟨y3, y4, y5⟩, ⟨y6, y7, y8⟩, hz2⟩ := b2.nine hT
  go_wp2_with fail
  refine (HB.out _).mono ?_
  rintro e w3 ⟨rfl, hT2⟩
  have hT := then_below hT hT2
  clear hT2 c0 c1 c2 hz x0 x1 x2 x3 x4 x5 x6 x7 x8 hz1 y0 y1 y2 y3 y4 y5 y6 y7 y8 hz2
  obtain ⟨c0, c1, c2, hz⟩ := b0.three hT
  obtain ⟨⟨x0, x1, x2⟩, ⟨x3, x4, x5⟩, ⟨x6, x7, x8⟩, hz1⟩ := b1.nine hT
  obtain ⟨⟨y0, y1, y2⟩, ⟨y3, y4, y5⟩, ⟨y6, y7, y8⟩, hz2⟩ := b2.nine hT
  go_wp2_with fail
  refine (HM.out _).mono ?_
  rintro e w4 ⟨rfl, hT2⟩
  have hT := then_below hT hT2
  clear hT2 c0 c1 c2 hz x0 x1 x2 x3 x4 x5 x6 x7 x8 hz1 y0 y1 y2 y3 y4 y5 y6 y7 y8 hz2
  obtain ⟨c0, c1, c2, hz⟩ := b0.three hT
  obtain ⟨⟨x0, x1, x2⟩, ⟨x3, x4, x5⟩, ⟨x6, x7, x8⟩, hz1⟩ := b1.nine hT
  go_wp2_with fail
  refine (HS.out _).mono ?_
  rintro e w5 ⟨rfl, hT2⟩
  have hT := then_below hT hT2
  have hB := then_below hB0 hT
  have g0 := b0.later hT
  have g1 := b1.later hT
  have g2 := b2.later hT
  clear hT2 c0 c1 c2 hz x0 x1 x2 x3 x4 x5 x6 x7 x8 hz1 hT hB0 b0 b1 b2
  obtain ⟨_, _, ⟨x6, x7, x8⟩, hz1⟩ := g1.nine (Below.refl _ _)
  have f6 := g1.frozen 6
  have f7 := g1.frozen 7
  have f8 := g1.frozen 8
  have k1 := g1.tail3
  have k0 := g0.other3 (B' := w.heap.size + 1) (by omega)
  have k2 := g2.other3 (B' := w.heap.size + 1) (by omega)
  have hB' := below_tail3 (B := w.heap.size + 1) hB (by omega)
  obtain ⟨_, _, ⟨y6, y7, y8⟩, hz2⟩ := k2.nine (Below.refl _ _)
  have h6 := k2.frozen 6
  have h7 := k2.frozen 7
  have h8 := k2.frozen 8
  have m0 := k0.other3 (B' := w.heap.size + 1 + 1) (by omega)
  have m1 := k1.other3 (B' := w.heap.size + 1 + 1) (by omega)
  have m2 := k2.tail3
  have hB2 := below_tail3 (B := w.heap.size + 1 + 1) hB' (by omega)
  clear k0 k1 k2 g0 g1 g2 hB hB'
  obtain ⟨c0, c1, c2, hz⟩ := m0.three (Below.refl _ _)
  obtain ⟨⟨u0, u1, u2⟩, ⟨u3, u4, u5⟩, ⟨u6, u7, u8⟩, hz3⟩ := m1.nine (Below.refl _ _)
  obtain ⟨⟨v0, v1, v2⟩, ⟨v3, v4, v5⟩, ⟨v6, v7, v8⟩, hz4⟩ := m2.nine (Below.refl _ _)
  clear m0 m1 m2
  go_wp2_with fail
  refine (HF.out _).mono ?_
  rintro e w6 ⟨rfl, hT2⟩
  have hB := then_below hB2 hT2
  clear hT2 x6 x7 x8 hz1 f6 f7 f8 y6 y7 y8 hz2 h6 h7 h8 c0 c1 c2 hz u0 u1 u2 u3 u4 u5 u6 u7 u8 hz3 v0 v1 v2 v3 v4 v5 v6 v7 v8 hz4 hB2
  have hx := HX.out
  cases ap
  · cases mt
    · go_wp2
      go_ret
      exact ⟨rfl, hB⟩
    · go_wp2
      go_ret
      exact ⟨rfl, hB⟩
  · cases mt
    · go_wp2
      go_ret
      exact ⟨rfl, hB⟩
    · simp at hx

theorem placeApart_walk (d0 d1 d2 : Int) (a : Bx) (s0 s1 s2 : Bool) (b : Bx) (t0 t1 t2 : Bool) (w : World) :
    Calls Try.prog 3 #[A3 d0 d1 d2, P9 a s0 s1 s2, P9 b t0 t1 t2] w fun e W' => e = .returned (.bool true) ∧ Below w.heap.size w W' := by
  have ne : ∀ {x : Int}, x = 2 ∨ x = 8 → (x != 0) = true := fun h => by rcases h with h | h <;> rw [h] <;> rfl
  rcases errP_cases d0 d1 d2 a s0 s1 s2 with ⟨hm, ha, _⟩ | ⟨ea, _⟩
  · rcases errP_cases d0 d1 d2 b t0 t1 t2 with ⟨_, hb, _⟩ | ⟨eb, _⟩
    · exact placeApart_ok w hm ha hb
    · exact placeApart_err w (ne eb) (fun w => apart_err2 t0 t1 t2 w hm ha (ne eb)) (fun w => apart_err1 t0 t1 t2 a s0 s1 s2 w (ne eb))
  · rcases errP_cases d0 d1 d2 b t0 t1 t2 with ⟨hm, hb, _⟩ | ⟨eb, _⟩
    · exact placeApart_err w (ne ea) (fun w => apart_err1 s0 s1 s2 b t0 t1 t2 w (ne ea)) (fun w => apart_err2 s0 s1 s2 w hm hb (ne ea))
    · exact placeApart_err w (ne ea) (fun w => apart_err1 s0 s1 s2 b t0 t1 t2 w (ne ea)) (fun w => apart_err1 t0 t1 t2 a s0 s1 s2 w (ne eb))

end Go.Proofs.Ytbobfhoimhambaa

/-
  How the arguments of this seat's statements are opened: whole numbers, and rows of three of them.
-/
namespace Go.Proofs.Ytbobfhoimhambaa
open Go.ChangeShapes Go.WideShapes Go.ChangeAt Go.RowKit

theorem own : ownKnob Try.prog.godebug = none := by kernel_rfl
theorem laidOut : laidOutB Try.prog = true := by kernel_rfl

theorem list3 {α : Type} (l : List α) (h : (⟨l⟩ : Array α).size = 3) : ∃ a b c, l = [a, b, c] := by
  match l, h with
  | [a, b, c], _ => exact ⟨a, b, c, rfl⟩

/-- A row of three whole numbers, by value. -/
theorem open_arr3 {P : Program} {w : World} {H : Type} {enc : TypeId × Value → H} {r : Reach} {b0 base : Nat} {spare : Nat → Bool} {held : Bool} {t e : TypeId} {v : Value} {d : DataW H} {p : List MemPlace}
    (ht : P.underlying t = some (.array 3 e)) (he : P.underlying e = some (.int .i64)) (hce : P.cellsOf e = 1) (hct : P.cellsOf t = 3)
    (hv : Value.okWide P w r b0 t v) (h : DataW.Trod enc P w base spare held t v d p) :
    ∃ a b c : Int, v = A3 a b c ∧ (Lit.int .i64 a).wf = true ∧ (Lit.int .i64 b).wf = true ∧ (Lit.int .i64 c).wf = true := by
  obtain ⟨cs, rfl, hsz, _⟩ : ∃ cs, v = .agg cs ∧ cs.size = P.cellsOf t ∧ Row.okWide P w r b0 t cs := by
    simpa [Value.okWide, ht] using hv
  rw [hct] at hsz
  obtain ⟨l⟩ := cs
  obtain ⟨c0, c1, c2, rfl⟩ := list3 l hsz
  obtain ⟨fuel, hf⟩ := h
  obtain ⟨y0, y1, y2, m, hx, hy0, hy1, hy2⟩ := trod_array3 ht hce hf
  obtain ⟨x0, e0, rfl, w0⟩ := DataW.trod_int he hy0
  obtain ⟨x1, e1, rfl, w1⟩ := DataW.trod_int he hy1
  obtain ⟨x2, e2, rfl, w2⟩ := DataW.trod_int he hy2
  simp at e0 e1 e2
  subst e0 e1 e2
  exact ⟨x0, x1, x2, rfl, w0, w1, w2⟩

theorem open_num {P : Program} {w : World} {H : Type} {enc : TypeId × Value → H} {r : Reach} {b0 base : Nat} {spare : Nat → Bool} {held : Bool} {t : TypeId} {k : IntKind} {v : Value} {d : DataW H} {p : List MemPlace}
    (ht : P.underlying t = some (.int k)) (hv : Value.okWide P w r b0 t v) (h : DataW.Trod enc P w base spare held t v d p) :
    ∃ a : Int, v = .int k a ∧ (Lit.int k a).wf = true := by
  obtain ⟨x, rfl, rfl, rfl, wx⟩ := open_int ht hv h
  exact ⟨x, rfl, wx⟩

theorem trod_lt' {H : Type} {enc : TypeId × Value → H} {P : Program} {W : World} {t : TypeId} {v : Value} {d : DataW H} {ps : List MemPlace} {sp : Nat → Bool} (h : DataW.Trod enc P W 0 sp true t v d ps) : ∀ x ∈ ps, x.block < W.heap.size := by
  obtain ⟨m, hm⟩ := h; exact DataW.trod_lt m _ _ _ hm

end Go.Proofs.Ytbobfhoimhambaa

/-
  How a place among a statement's arguments is opened: a box's six whole numbers, and three tori.
-/
namespace Go.Proofs.Ytbobfhoimhambaa
open Go.ChangeShapes Go.WideShapes Go.ChangeAt Go.RowKit

theorem list9 {α : Type} (l : List α) (h : (⟨l⟩ : Array α).size = 9) : ∃ a b c d e f g i j, l = [a, b, c, d, e, f, g, i, j] := by
  match l, h with
  | [a, b, c, d, e, f, g, i, j], _ => exact ⟨a, b, c, d, e, f, g, i, j, rfl⟩

set_option maxRecDepth 100000 in
theorem open_place {w : World} {H : Type} {enc : TypeId × Value → H} {r : Reach} {b0 base : Nat} {spare : Nat → Bool} {held : Bool} {v : Value} {d : DataW H} {p : List MemPlace}
    (hv : Value.okWide Try.prog w r b0 28 v) (h : DataW.Trod enc Try.prog w base spare held 28 v d p) : ∃ (b : Bx) (t0 t1 t2 : Bool), v = P9 b t0 t1 t2 := by
  obtain ⟨f0, f1, hu, t0, o0, t1, o1⟩ : ∃ f0 f1, Try.prog.underlying 28 = some (.struct #[f0, f1]) ∧ f0.type = 25 ∧ f0.offset = 0 ∧ f1.type = 26 ∧ f1.offset = 6 := ⟨_, _, rfl, rfl, rfl, rfl, rfl⟩
  obtain ⟨s0, s1, hs, q0, r0, q1, r1⟩ : ∃ f0 f1, Try.prog.underlying 25 = some (.struct #[f0, f1]) ∧ f0.type = 22 ∧ f0.offset = 0 ∧ f1.type = 22 ∧ f1.offset = 3 := ⟨_, _, rfl, rfl, rfl, rfl, rfl⟩
  obtain ⟨cs, rfl, hsz, _⟩ : ∃ cs, v = .agg cs ∧ cs.size = Try.prog.cellsOf 28 ∧ Row.okWide Try.prog w r b0 28 cs := by
    simpa [Value.okWide, hu] using hv
  have hct : Try.prog.cellsOf 28 = 9 := by kernel_rfl
  rw [hct] at hsz
  obtain ⟨l⟩ := cs
  obtain ⟨c0, c1, c2, c3, c4, c5, c6, c7, c8, rfl⟩ := list9 l hsz
  obtain ⟨fuel, hf⟩ := h
  obtain ⟨x, y, n, _, _, h0, h1⟩ := trod_struct2 hu hf
  have hc6 : Try.prog.cellsOf 25 = 6 := by kernel_rfl
  have hc3 : Try.prog.cellsOf 22 = 3 := by kernel_rfl
  have hc3' : Try.prog.cellsOf 26 = 3 := by kernel_rfl
  have hc1 : Try.prog.cellsOf 3 = 1 := by kernel_rfl
  have hc1' : Try.prog.cellsOf 4 = 1 := by kernel_rfl
  rw [t0, o0, hc6] at h0
  rw [t1, o1, hc3'] at h1
  have h0 : DataW.trod enc Try.prog w base spare held n 25 [c0, c1, c2, c3, c4, c5] = some x := h0
  have h1 : DataW.trod enc Try.prog w base spare held n 26 [c6, c7, c8] = some y := h1
  obtain ⟨x', y', n', _, _, h2, h3⟩ := trod_struct2 hs h0
  rw [q0, r0, hc3] at h2
  rw [q1, r1, hc3] at h3
  have h2 : DataW.trod enc Try.prog w base spare held n' 22 [c0, c1, c2] = some x' := h2
  have h3 : DataW.trod enc Try.prog w base spare held n' 22 [c3, c4, c5] = some y' := h3
  obtain ⟨_, _, _, m, _, g0, g1, g2⟩ := trod_array3 Try.underlying22 hc1 h2
  obtain ⟨_, _, _, m', _, g3, g4, g5⟩ := trod_array3 Try.underlying22 hc1 h3
  obtain ⟨_, _, _, m'', _, g6, g7, g8⟩ := trod_array3 Try.underlying26 hc1' h1
  obtain ⟨x0, e0, _, _⟩ := DataW.trod_int Try.underlying3 g0
  obtain ⟨x1, e1, _, _⟩ := DataW.trod_int Try.underlying3 g1
  obtain ⟨x2, e2, _, _⟩ := DataW.trod_int Try.underlying3 g2
  obtain ⟨x3, e3, _, _⟩ := DataW.trod_int Try.underlying3 g3
  obtain ⟨x4, e4, _, _⟩ := DataW.trod_int Try.underlying3 g4
  obtain ⟨x5, e5, _, _⟩ := DataW.trod_int Try.underlying3 g5
  obtain ⟨y6, e6, _⟩ := DataW.trod_bool Try.underlying4 g6
  obtain ⟨y7, e7, _⟩ := DataW.trod_bool Try.underlying4 g7
  obtain ⟨y8, e8, _⟩ := DataW.trod_bool Try.underlying4 g8
  simp at e0 e1 e2 e3 e4 e5 e6 e7 e8
  subst e0 e1 e2 e3 e4 e5 e6 e7 e8
  exact ⟨⟨x0, x1, x2, x3, x4, x5⟩, y6, y7, y8, rfl⟩

end Go.Proofs.Ytbobfhoimhambaa

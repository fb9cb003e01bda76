/-
  The statement PlaceTells, walked.
-/
import Derived.Test.YtbobfhoimhambaaGreatDoorPart30
import Derived.Test.YtbobfhoimhambaaGreatDoorPart3
import Derived.Test.YtbobfhoimhambaaGreatDoorPart1
import Derived.Test.YtbobfhoimhambaaGreatDoorRows
import Derived.ProofKit
import Derived.OpenShut
import Derived.ChangeOld
import Derived.Below
import Derived.Laws.IdiomArrays
import Derived.Test.YtbobfhoimhambaaGreatDoorPart19
import Derived.ChangeSame
import Derived.ChangeArms
import Derived.Test.YtbobfhoimhambaaGreatDoorPart14
import Derived.LaidMore
import Derived.Stop.Joined
import Derived.Lib.LaidTab
import Derived.SevenTiedAt
namespace Go.Proofs.YtbobfhoimhambaaGreatDoor
open Go Go.RowKit Go.Shelf

attribute [local go_sem] Oper.semAt_some ext_const

theorem errP_bd (d0 d1 d2 : Int) (b : Bx) (t0 t1 t2 : Bool) : 0 ≤ errP d0 d1 d2 b t0 t1 t2 ∧ errP d0 d1 d2 b t0 t1 t2 ≤ 8 := by
  rcases errP_cases d0 d1 d2 b t0 t1 t2 with ⟨_, _, h⟩ | ⟨h | h, _⟩ <;> rw [h] <;> omega
theorem errP_ne {x : Int} (h : x = 2 ∨ x = 8) : (x != 0) = true := by rcases h with h | h <;> rw [h] <;> rfl

/-- A call that answers two sets in new memory, or none, and an error. -/
def SetsW (f : FuncId) (args : Array Value) (S1 S2 : List Nat) (e : Int) : Prop :=
  ∀ w : World, Calls Tryz.prog f args w fun x W' => ∃ u v, x = .returned (.tuple #[u, v, I e]) ∧ SetR W' 0 u S1 ∧ SetR W' 0 v S2 ∧ Below w.heap.size w W'
theorem both_sets (d0 d1 d2 : Int) (b : Bx) (t0 t1 t2 : Bool) : ∃ S1 S2, S1.length ≤ 300 ∧ S2.length ≤ 300 ∧ SetsW 4 #[A3 d0 d1 d2, P9 b t0 t1 t2] S1 S2 (errP d0 d1 d2 b t0 t1 t2) ∧ SetsW 5 #[A3 d0 d1 d2, P9 b t0 t1 t2] S1 S2 (errP d0 d1 d2 b t0 t1 t2) := by
  rcases errP_cases d0 d1 d2 b t0 t1 t2 with ⟨hm, hp, he⟩ | ⟨he, _⟩
  · have hN := N_bd hm
    rw [he]
    refine ⟨midW d0 d1 d2 b, cabsW d0 d1 d2 b t0 t1 t2, by unfold midW; rw [setOf_len]; omega, by unfold cabsW; rw [setOf_len]; omega, fun w => ?_, fun w => ?_⟩
    · exact (sets_ok w hm hp).mono fun _ _ ⟨u, v, h1, h2, h3, h4⟩ => ⟨u, v, h1, h2.weak (Nat.zero_le _), h3.weak (Nat.zero_le _), h4⟩
    · exact (rsets_ok w hm hp).mono fun _ _ ⟨u, v, h1, h2, h3, h4⟩ => ⟨u, v, h1, h2.weak (Nat.zero_le _), h3.weak (Nat.zero_le _), h4⟩
  · refine ⟨[], [], by simp, by simp, fun w => ?_, fun w => ?_⟩
    · exact (sets_err t0 t1 t2 w (errP_ne he)).mono fun _ _ ⟨h1, h2⟩ => ⟨_, _, h1, .inr ⟨rfl, rfl⟩, .inr ⟨rfl, rfl⟩, h2⟩
    · exact (rsets_err t0 t1 t2 w (errP_ne he)).mono fun _ _ ⟨h1, h2⟩ => ⟨_, _, h1, .inr ⟨rfl, rfl⟩, .inr ⟨rfl, rfl⟩, h2⟩
theorem both_passes (d0 d1 d2 : Int) (b : Bx) (t0 t1 t2 : Bool) : ∃ L : List Int, L.length ≤ 4096 ∧
    (∀ w, TabOk w → Calls Tryz.prog 6 #[A3 d0 d1 d2, P9 b t0 t1 t2] w fun x W' => ∃ v, x = .returned (.tuple #[v, I (errP d0 d1 d2 b t0 t1 t2)]) ∧ Lst W' 0 v L ∧ Below w.heap.size w W') ∧
    (∀ w, Calls Tryz.prog 7 #[A3 d0 d1 d2, P9 b t0 t1 t2] w fun x W' => ∃ v, x = .returned (.tuple #[v, I (errP d0 d1 d2 b t0 t1 t2)]) ∧ Lst W' 0 v L ∧ Below w.heap.size w W') := by
  rcases errP_cases d0 d1 d2 b t0 t1 t2 with ⟨hm, hp, he⟩ | ⟨he, _⟩
  · rw [he]
    refine ⟨passL d0 d1 d2 b t0 t1 t2, passL_len hm b t0 t1 t2, fun w ht => ?_, fun w => ?_⟩
    · exact (passes_ok w ht hm hp).mono fun _ _ ⟨v, h1, h2, h3⟩ => ⟨v, h1, h2.weak (Nat.zero_le _), h3⟩
    · exact (rpasses_ok w hm hp).mono fun _ _ ⟨v, h1, h2, h3⟩ => ⟨v, h1, h2.weak (Nat.zero_le _), h3⟩
  · refine ⟨[], by simp, fun w _ => ?_, fun w => ?_⟩
    · exact (passes_err t0 t1 t2 w (errP_ne he)).mono fun _ _ ⟨h1, h2⟩ => ⟨_, h1, Lst.nil _ _, h2⟩
    · exact (rpasses_err t0 t1 t2 w (errP_ne he)).mono fun _ _ ⟨h1, h2⟩ => ⟨_, h1, Lst.nil _ _, h2⟩
theorem both_apart (d0 d1 d2 : Int) (a : Bx) (s0 s1 s2 : Bool) (b : Bx) (t0 t1 t2 : Bool) : ∃ (r : Bool) (e : Int), 0 ≤ e ∧ e ≤ 8 ∧
    (∀ w, Calls Tryz.prog 8 #[A3 d0 d1 d2, P9 a s0 s1 s2, P9 b t0 t1 t2] w fun x W' => x = .returned (.tuple #[.bool r, I e]) ∧ Below w.heap.size w W') ∧
    (∀ w, Calls Tryz.prog 9 #[A3 d0 d1 d2, P9 a s0 s1 s2, P9 b t0 t1 t2] w fun x W' => x = .returned (.tuple #[.bool r, I e]) ∧ Below w.heap.size w W') := by
  rcases errP_cases d0 d1 d2 a s0 s1 s2 with ⟨hm, ha, _⟩ | ⟨ea, _⟩
  · rcases errP_cases d0 d1 d2 b t0 t1 t2 with ⟨_, hb, _⟩ | ⟨eb, _⟩
    · exact ⟨_, 0, by omega, by omega, fun w => apart_ok w hm ha hb, fun w => rapart_ok w hm ha hb⟩
    · exact ⟨false, _, (errP_bd d0 d1 d2 b t0 t1 t2).1, (errP_bd d0 d1 d2 b t0 t1 t2).2, fun w => apart_err2 t0 t1 t2 w hm ha (errP_ne eb), fun w => rapart_err2 t0 t1 t2 w hm ha (errP_ne eb)⟩
  · exact ⟨false, _, (errP_bd d0 d1 d2 a s0 s1 s2).1, (errP_bd d0 d1 d2 a s0 s1 s2).2, fun w => apart_err1 s0 s1 s2 b t0 t1 t2 w (errP_ne ea), fun w => rapart_err1 s0 s1 s2 b t0 t1 t2 w (errP_ne ea)⟩

set_option maxRecDepth 100000 in
set_option maxHeartbeats 8000000 in
theorem placeTells_walk (d0 d1 d2 : Int) (a : Bx) (s0 s1 s2 : Bool) (b : Bx) (t0 t1 t2 : Bool) (w : World) (hTab : TabOk w) :
    Calls Tryz.prog 3 #[A3 d0 d1 d2, P9 a s0 s1 s2, P9 b t0 t1 t2] w fun e W' => e = .returned (.bool true) ∧ Below w.heap.size w W' := by
  have hmx : Tryz.prog.follows .mixedOrders = true := by kernel_rfl
  obtain ⟨S1, S2, l1, l2, HS, HR⟩ := both_sets d0 d1 d2 a s0 s1 s2
  obtain ⟨L, l3, HP, HQ⟩ := both_passes d0 d1 d2 a s0 s1 s2
  obtain ⟨r, e3, l4, l5, HA, HB⟩ := both_apart d0 d1 d2 a s0 s1 s2 b t0 t1 t2
  have HC : Hid (∀ w, Calls Tryz.prog 10 #[A3 d0 d1 d2, P9 a s0 s1 s2] w fun e W' => e = .returned (I (errP d0 d1 d2 a s0 s1 s2)) ∧ Below w.heap.size w W') := fun w => pcheck_calls d0 d1 d2 a s0 s1 s2 w
  have HD : Hid (∀ w, Calls Tryz.prog 11 #[A3 d0 d1 d2, P9 a s0 s1 s2] w fun e W' => e = .returned (I (errP d0 d1 d2 a s0 s1 s2)) ∧ Below w.heap.size w W') := fun w => rpcheck_calls d0 d1 d2 a s0 s1 s2 w
  obtain ⟨l6, l7⟩ := errP_bd d0 d1 d2 a s0 s1 s2
  generalize errP d0 d1 d2 a s0 s1 s2 = er at *
  have HLen : Hid (S1.length ≤ 300 ∧ S2.length ≤ 300 ∧ L.length ≤ 4096) := ⟨l1, l2, l3⟩
  clear l1 l2 l3
  go_enter Tryz.func3, Tryz.ntmps3
  go_wp2_with fail
  obtain ⟨W, hW, hs, hB0, b0, b1, b2⟩ := three_start w #[I d0, I d1, I d2] (C9 a s0 s1 s2) (C9 b t0 t1 t2) 23 28 28
  rw [hW]
  clear hW
  have hT := Below.refl W.heap.size W
  refine (HS _).mono ?_
  rintro e w1 ⟨u, v, rfl, hu, hv, hB⟩
  have hT := then_below hT hB
  clear hB
  obtain ⟨c0, c1, c2, hz⟩ := b0.three hT
  obtain ⟨⟨x0, x1, x2⟩, ⟨x3, x4, x5⟩, ⟨x6, x7, x8⟩, hz1⟩ := b1.nine hT
  go_wp2_with fail
  refine (HR _).mono ?_
  rintro e w2 ⟨x, y, rfl, hx, hy, hB⟩
  have hu := hu.later hB
  have hv := hv.later hB
  have hT := then_below hT hB
  clear hB c0 c1 c2 hz x0 x1 x2 x3 x4 x5 x6 x7 x8 hz1
  obtain ⟨c0, c1, c2, hz⟩ := b0.three hT
  obtain ⟨⟨x0, x1, x2⟩, ⟨x3, x4, x5⟩, ⟨x6, x7, x8⟩, hz1⟩ := b1.nine hT
  go_wp2_with fail
  refine (HP _ (hTab.later (then_below hB0 hT))).mono ?_
  rintro e w3 ⟨l, rfl, hl, hB⟩
  have hu := hu.later hB
  have hv := hv.later hB
  have hx := hx.later hB
  have hy := hy.later hB
  have hT := then_below hT hB
  clear hB c0 c1 c2 hz x0 x1 x2 x3 x4 x5 x6 x7 x8 hz1
  obtain ⟨c0, c1, c2, hz⟩ := b0.three hT
  obtain ⟨⟨x0, x1, x2⟩, ⟨x3, x4, x5⟩, ⟨x6, x7, x8⟩, hz1⟩ := b1.nine hT
  go_wp2_with fail
  refine (HQ _).mono ?_
  rintro e w4 ⟨m, rfl, hm, hB⟩
  have hu := hu.later hB
  have hv := hv.later hB
  have hx := hx.later hB
  have hy := hy.later hB
  have hl := hl.later hB
  have hT := then_below hT hB
  clear hB c0 c1 c2 hz x0 x1 x2 x3 x4 x5 x6 x7 x8 hz1
  obtain ⟨c0, c1, c2, hz⟩ := b0.three hT
  obtain ⟨⟨x0, x1, x2⟩, ⟨x3, x4, x5⟩, ⟨x6, x7, x8⟩, hz1⟩ := b1.nine hT
  obtain ⟨⟨z0, z1, z2⟩, ⟨z3, z4, z5⟩, ⟨z6, z7, z8⟩, hz2⟩ := b2.nine hT
  go_wp2_with fail
  refine (HA _).mono ?_
  rintro e w5 ⟨rfl, hB⟩
  have hu := hu.later hB
  have hv := hv.later hB
  have hx := hx.later hB
  have hy := hy.later hB
  have hl := hl.later hB
  have hm := hm.later hB
  have hT := then_below hT hB
  clear hB c0 c1 c2 hz x0 x1 x2 x3 x4 x5 x6 x7 x8 hz1 z0 z1 z2 z3 z4 z5 z6 z7 z8 hz2
  obtain ⟨c0, c1, c2, hz⟩ := b0.three hT
  obtain ⟨⟨x0, x1, x2⟩, ⟨x3, x4, x5⟩, ⟨x6, x7, x8⟩, hz1⟩ := b1.nine hT
  obtain ⟨⟨z0, z1, z2⟩, ⟨z3, z4, z5⟩, ⟨z6, z7, z8⟩, hz2⟩ := b2.nine hT
  go_wp2_with fail
  refine (HB _).mono ?_
  rintro e w6 ⟨rfl, hB⟩
  have hu := hu.later hB
  have hv := hv.later hB
  have hx := hx.later hB
  have hy := hy.later hB
  have hl := hl.later hB
  have hm := hm.later hB
  have hT := then_below hT hB
  clear hB c0 c1 c2 hz x0 x1 x2 x3 x4 x5 x6 x7 x8 hz1 z0 z1 z2 z3 z4 z5 z6 z7 z8 hz2
  have KS1 : Hid (∀ x' : Ext w6, Calls Tryz.prog 12 #[u, x] x'.wd fun e W'' => e = .returned (.bool true) ∧ Below x'.wd.heap.size x'.wd W'') := fun x' => by
    have := sameS_calls x'.wd ((hu.later x'.le).wds) ((hx.later x'.le).wds) (by have := HLen.out.1; omega)
    rwa [decide_eq_true rfl] at this
  have KS2 : Hid (∀ x' : Ext w6, Calls Tryz.prog 12 #[v, y] x'.wd fun e W'' => e = .returned (.bool true) ∧ Below x'.wd.heap.size x'.wd W'') := fun x' => by
    have := sameS_calls x'.wd ((hv.later x'.le).wds) ((hy.later x'.le).wds) (by have := HLen.out.2.1; omega)
    rwa [decide_eq_true rfl] at this
  have KI : Hid (∀ x' : Ext w6, Calls Tryz.prog 13 #[l, m] x'.wd fun e W'' => e = .returned (.bool true) ∧ Below x'.wd.heap.size x'.wd W'') := fun x' => by
    have := ints_calls x'.wd (hl.later x'.le) (hm.later x'.le) HLen.out.2.2
    simpa using this
  have q0 := b0.later hT
  have q1 := b1.later hT
  have e0 := Ext.cell q0 0
  have e1 := Ext.cell q0 1
  have e2 := Ext.cell q0 2
  have f0 := Ext.cell q1 0
  have f1 := Ext.cell q1 1
  have f2 := Ext.cell q1 2
  have f3 := Ext.cell q1 3
  have f4 := Ext.cell q1 4
  have f5 := Ext.cell q1 5
  have f6 := Ext.cell q1 6
  have f7 := Ext.cell q1 7
  have f8 := Ext.cell q1 8
  simp at e0 e1 e2 f0 f1 f2 f3 f4 f5 f6 f7 f8
  clear hu hv hx hy hl hm
  go_wp2_with fail
  refine wp_region_look hmx (by kernel_rfl) ?_
  repeat (go_big_quiet_step (fail))
  go_big_quiet_step ((go_at_call 10; exact calls_ext (HC.out _)))
  repeat (go_big_quiet_step (fail))
  go_big_quiet_step ((go_at_call 11; exact calls_ext (HD.out _)))
  repeat (go_big_quiet_step (fail))
  go_big_quiet_step ((go_at_call 12; exact calls_ext (KS1.out _)))
  repeat (go_big_quiet_step (fail))
  go_big_quiet_step ((go_at_call 12; exact calls_ext (KS2.out _)))
  repeat (go_big_quiet_step (fail))
  go_big_quiet_step ((go_at_call 13; exact calls_ext (KI.out _)))
  repeat (go_big_quiet_step (fail))
  refine wpQuiet_nil ?_
  intro x'
  go_wp2
  go_ret
  exact ⟨rfl, then_below hB0 (then_below hT x'.le)⟩

end Go.Proofs.YtbobfhoimhambaaGreatDoor

/-
  How the arguments of this seat's statements are opened: whole numbers, and rows of three of them.
-/
namespace Go.Proofs.YtbobfhoimhambaaGreatDoor
open Go.ChangeShapes Go.WideShapes Go.ChangeAt Go.RowKit

theorem own : ownKnob Tryz.prog.godebug = none := by kernel_rfl
theorem laidOut : laidOutB Tryz.prog = true := by kernel_rfl

theorem list3 {α : Type} (l : List α) (h : (⟨l⟩ : Array α).size = 3) : ∃ a b c, l = [a, b, c] := by
  match l, h with
  | [a, b, c], _ => exact ⟨a, b, c, rfl⟩

/-- A row of three whole numbers, by value. -/
theorem open_arr3 {P : Program} {w : World} {H : Type} {enc : TypeId × Value → H} {r : Reach} {b0 base : Nat} {spare : Nat → Bool} {held : Bool} {t e : TypeId} {v : Value} {d : DataW H} {p : List MemPlace}
    (ht : P.underlying t = some (.array 3 e)) (he : P.underlying e = some (.int .i64)) (hce : P.cellsOf e = 1) (hct : P.cellsOf t = 3)
    (hv : Value.okWide P w r b0 t v) (h : DataW.Trod enc P w base spare held t v d p) :
    ∃ a b c : Int, v = A3 a b c ∧ (Lit.int .i64 a).wf = true ∧ (Lit.int .i64 b).wf = true ∧ (Lit.int .i64 c).wf = true := by
  obtain ⟨cs, rfl, hsz, _⟩ : ∃ cs, v = .agg cs ∧ cs.size = P.cellsOf t ∧ Row.okWide P w r b0 t cs := by
    simpa [Value.okWide, ht] using hv
  rw [hct] at hsz
  obtain ⟨l⟩ := cs
  obtain ⟨c0, c1, c2, rfl⟩ := list3 l hsz
  obtain ⟨fuel, hf⟩ := h
  obtain ⟨y0, y1, y2, m, hx, hy0, hy1, hy2⟩ := trod_array3 ht hce hf
  obtain ⟨x0, e0, rfl, w0⟩ := DataW.trod_int he hy0
  obtain ⟨x1, e1, rfl, w1⟩ := DataW.trod_int he hy1
  obtain ⟨x2, e2, rfl, w2⟩ := DataW.trod_int he hy2
  simp at e0 e1 e2
  subst e0 e1 e2
  exact ⟨x0, x1, x2, rfl, w0, w1, w2⟩

theorem open_num {P : Program} {w : World} {H : Type} {enc : TypeId × Value → H} {r : Reach} {b0 base : Nat} {spare : Nat → Bool} {held : Bool} {t : TypeId} {k : IntKind} {v : Value} {d : DataW H} {p : List MemPlace}
    (ht : P.underlying t = some (.int k)) (hv : Value.okWide P w r b0 t v) (h : DataW.Trod enc P w base spare held t v d p) :
    ∃ a : Int, v = .int k a ∧ (Lit.int k a).wf = true := by
  obtain ⟨x, rfl, rfl, rfl, wx⟩ := open_int ht hv h
  exact ⟨x, rfl, wx⟩

theorem trod_lt' {H : Type} {enc : TypeId × Value → H} {P : Program} {W : World} {t : TypeId} {v : Value} {d : DataW H} {ps : List MemPlace} {sp : Nat → Bool} (h : DataW.Trod enc P W 0 sp true t v d ps) : ∀ x ∈ ps, x.block < W.heap.size := by
  obtain ⟨m, hm⟩ := h; exact DataW.trod_lt m _ _ _ hm

end Go.Proofs.YtbobfhoimhambaaGreatDoor

/-
  How a place among a statement's arguments is opened: a box's six whole numbers, and three tori.
-/
namespace Go.Proofs.YtbobfhoimhambaaGreatDoor
open Go.ChangeShapes Go.WideShapes Go.ChangeAt Go.RowKit

theorem list9 {α : Type} (l : List α) (h : (⟨l⟩ : Array α).size = 9) : ∃ a b c d e f g i j, l = [a, b, c, d, e, f, g, i, j] := by
  match l, h with
  | [a, b, c, d, e, f, g, i, j], _ => exact ⟨a, b, c, d, e, f, g, i, j, rfl⟩

set_option maxRecDepth 100000 in
theorem open_place {w : World} {H : Type} {enc : TypeId × Value → H} {r : Reach} {b0 base : Nat} {spare : Nat → Bool} {held : Bool} {v : Value} {d : DataW H} {p : List MemPlace}
    (hv : Value.okWide Tryz.prog w r b0 28 v) (h : DataW.Trod enc Tryz.prog w base spare held 28 v d p) : ∃ (b : Bx) (t0 t1 t2 : Bool), v = P9 b t0 t1 t2 := by
  obtain ⟨f0, f1, hu, t0, o0, t1, o1⟩ : ∃ f0 f1, Tryz.prog.underlying 28 = some (.struct #[f0, f1]) ∧ f0.type = 25 ∧ f0.offset = 0 ∧ f1.type = 26 ∧ f1.offset = 6 := ⟨_, _, rfl, rfl, rfl, rfl, rfl⟩
  obtain ⟨s0, s1, hs, q0, r0, q1, r1⟩ : ∃ f0 f1, Tryz.prog.underlying 25 = some (.struct #[f0, f1]) ∧ f0.type = 22 ∧ f0.offset = 0 ∧ f1.type = 22 ∧ f1.offset = 3 := ⟨_, _, rfl, rfl, rfl, rfl, rfl⟩
  obtain ⟨cs, rfl, hsz, _⟩ : ∃ cs, v = .agg cs ∧ cs.size = Tryz.prog.cellsOf 28 ∧ Row.okWide Tryz.prog w r b0 28 cs := by
    simpa [Value.okWide, hu] using hv
  have hct : Tryz.prog.cellsOf 28 = 9 := by kernel_rfl
  rw [hct] at hsz
  obtain ⟨l⟩ := cs
  obtain ⟨c0, c1, c2, c3, c4, c5, c6, c7, c8, rfl⟩ := list9 l hsz
  obtain ⟨fuel, hf⟩ := h
  obtain ⟨x, y, n, _, _, h0, h1⟩ := trod_struct2 hu hf
  have hc6 : Tryz.prog.cellsOf 25 = 6 := by kernel_rfl
  have hc3 : Tryz.prog.cellsOf 22 = 3 := by kernel_rfl
  have hc3' : Tryz.prog.cellsOf 26 = 3 := by kernel_rfl
  have hc1 : Tryz.prog.cellsOf 3 = 1 := by kernel_rfl
  have hc1' : Tryz.prog.cellsOf 4 = 1 := by kernel_rfl
  rw [t0, o0, hc6] at h0
  rw [t1, o1, hc3'] at h1
  have h0 : DataW.trod enc Tryz.prog w base spare held n 25 [c0, c1, c2, c3, c4, c5] = some x := h0
  have h1 : DataW.trod enc Tryz.prog w base spare held n 26 [c6, c7, c8] = some y := h1
  obtain ⟨x', y', n', _, _, h2, h3⟩ := trod_struct2 hs h0
  rw [q0, r0, hc3] at h2
  rw [q1, r1, hc3] at h3
  have h2 : DataW.trod enc Tryz.prog w base spare held n' 22 [c0, c1, c2] = some x' := h2
  have h3 : DataW.trod enc Tryz.prog w base spare held n' 22 [c3, c4, c5] = some y' := h3
  obtain ⟨_, _, _, m, _, g0, g1, g2⟩ := trod_array3 Tryz.underlying22 hc1 h2
  obtain ⟨_, _, _, m', _, g3, g4, g5⟩ := trod_array3 Tryz.underlying22 hc1 h3
  obtain ⟨_, _, _, m'', _, g6, g7, g8⟩ := trod_array3 Tryz.underlying26 hc1' h1
  obtain ⟨x0, e0, _, _⟩ := DataW.trod_int Tryz.underlying3 g0
  obtain ⟨x1, e1, _, _⟩ := DataW.trod_int Tryz.underlying3 g1
  obtain ⟨x2, e2, _, _⟩ := DataW.trod_int Tryz.underlying3 g2
  obtain ⟨x3, e3, _, _⟩ := DataW.trod_int Tryz.underlying3 g3
  obtain ⟨x4, e4, _, _⟩ := DataW.trod_int Tryz.underlying3 g4
  obtain ⟨x5, e5, _, _⟩ := DataW.trod_int Tryz.underlying3 g5
  obtain ⟨y6, e6, _⟩ := DataW.trod_bool Tryz.underlying4 g6
  obtain ⟨y7, e7, _⟩ := DataW.trod_bool Tryz.underlying4 g7
  obtain ⟨y8, e8, _⟩ := DataW.trod_bool Tryz.underlying4 g8
  simp at e0 e1 e2 e3 e4 e5 e6 e7 e8
  subst e0 e1 e2 e3 e4 e5 e6 e7 e8
  exact ⟨⟨x0, x1, x2, x3, x4, x5⟩, y6, y7, y8, rfl⟩

end Go.Proofs.YtbobfhoimhambaaGreatDoor

/-
  What the statements that list math/bits' table ask ahead of a walk: the table lies in its variable, as the condition says.
-/
namespace Go.Proofs.YtbobfhoimhambaaGreatDoor
open Go Go.ChangeShapes Go.WideShapes Go.ChangeAt Go.RowKit

def tabLaid : List (String × DataW Unit) := [("math/bits.deBruijn64tab", Rows.laid_math_bits_deBruijn64tab)]

theorem tab_named : Tryz.prog.globalNamed "math/bits.deBruijn64tab" = some 0 := by kernel_rfl
theorem tab_type : (Tryz.prog.globals[0]?).map (·.type) = some 122 := by kernel_rfl

/-- The heap that the program's own start leaves meets the condition. -/
theorem door_met (os : Os) (args : Array Value) : laidMetH Tryz.prog tabLaid ((World.doorLaid Tryz.prog 14 os).forCall (fun _ _ => 0) ⟨#[], args, []⟩).memory :=
  laidMetH_of_parts3 (fuel := 8) (laidMet_of_run' 8 (by kernel_rfl) (by kernel_rfl)) (by kernel_rfl) (by kernel_rfl)

theorem tab_datum : (Rows.laid_math_bits_deBruijn64tab : DataW Unit) = Lib.tabData .u8 (ofN Lib.deBruijn64tab) := rfl

theorem tab_of {W : World} (h : laidMetH Tryz.prog tabLaid W) : TabOk W := by
  rw [MakeChecks.laidMetH_plain _ _ _ (by kernel_rfl)] at h
  unfold tabLaid at h
  rw [tab_datum] at h
  have hT := Lib.tabIs_of_head tab_named tab_type Tryz.underlying122 Tryz.underlying5 (by kernel_rfl) (by kernel_rfl) h
  intro j hj
  have := hT.cell tab_named j (by rw [ofN_len]; exact hj)
  rw [this, ofN_get]

/-- No parameter's type asks for a stand-in. -/
theorem noS_stand_in (ts : Array TypeId) (h : (ts.toList.all fun t => !Tryz.prog.wantsStandIn t) = true) (j : Nat) (t : TypeId) (ht : ts[j]? = some t) : Tryz.prog.wantsStandIn t = false := by
  have hm : t ∈ ts.toList := by
    obtain ⟨hlt, he⟩ := Array.getElem?_eq_some_iff.1 ht
    rw [← he]
    exact Array.getElem_mem_toList hlt
  have := List.all_eq_true.1 h t hm
  simpa using this

end Go.Proofs.YtbobfhoimhambaaGreatDoor

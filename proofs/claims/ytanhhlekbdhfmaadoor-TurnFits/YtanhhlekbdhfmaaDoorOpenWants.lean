/-
  How what is asked for, and three tori, among a statement's arguments are opened.
-/
import Derived.Test.YtanhhlekbdhfmaaDoorOpen
import Derived.Test.YtanhhlekbdhfmaaDoorWants
import Derived.ChangeSame
import Derived.ChangeArms
import Derived.Deep.Strs
namespace Go.Proofs.YtanhhlekbdhfmaaDoor
open Go.ChangeShapes Go.WideShapes Go.ChangeAt Go.RowKit

theorem list7 {α : Type} (l : List α) (h : (⟨l⟩ : Array α).size = 7) : ∃ a b c d e f g, l = [a, b, c, d, e, f, g] := by
  match l, h with
  | [a, b, c, d, e, f, g], _ => exact ⟨a, b, c, d, e, f, g, rfl⟩

theorem open_bool3 {w : World} {H : Type} {enc : TypeId × Value → H} {r : Reach} {b0 base : Nat} {spare : Nat → Bool} {held : Bool} {v : Value} {d : DataW H} {p : List MemPlace}
    (hv : Value.okWide Tryd.prog w r b0 27 v) (h : DataW.Trod enc Tryd.prog w base spare held 27 v d p) : ∃ f g k : Bool, v = B3 f g k := by
  obtain ⟨cs, rfl, hsz, _⟩ : ∃ cs, v = .agg cs ∧ cs.size = Tryd.prog.cellsOf 27 ∧ Row.okWide Tryd.prog w r b0 27 cs := by
    simpa [Value.okWide, Tryd.underlying27] using hv
  have hct : Tryd.prog.cellsOf 27 = 3 := by kernel_rfl
  have hce : Tryd.prog.cellsOf 4 = 1 := by kernel_rfl
  rw [hct] at hsz
  obtain ⟨l⟩ := cs
  obtain ⟨c0, c1, c2, rfl⟩ := list3 l hsz
  obtain ⟨fuel, hf⟩ := h
  obtain ⟨y0, y1, y2, m, hx, hy0, hy1, hy2⟩ := trod_array3 Tryd.underlying27 hce hf
  obtain ⟨x0, e0, rfl⟩ := DataW.trod_bool Tryd.underlying4 hy0
  obtain ⟨x1, e1, rfl⟩ := DataW.trod_bool Tryd.underlying4 hy1
  obtain ⟨x2, e2, rfl⟩ := DataW.trod_bool Tryd.underlying4 hy2
  simp at e0 e1 e2
  subst e0 e1 e2
  exact ⟨x0, x1, x2, rfl⟩

theorem open_wants {w : World} {H : Type} {enc : TypeId × Value → H} {r : Reach} {b0 base : Nat} {spare : Nat → Bool} {held : Bool} {v : Value} {d : DataW H} {p : List MemPlace}
    (hv : Value.okWide Tryd.prog w r b0 29 v) (h : DataW.Trod enc Tryd.prog w base spare held 29 v d p) :
    ∃ (x y z : Int) (f g k t : Bool), v = V7 x y z f g k t ∧ (Lit.int .i64 x).wf = true ∧ (Lit.int .i64 y).wf = true ∧ (Lit.int .i64 z).wf = true := by
  obtain ⟨f0, f1, f2, hu, t0, o0, t1, o1, t2, o2⟩ : ∃ f0 f1 f2, Tryd.prog.underlying 29 = some (.struct #[f0, f1, f2]) ∧ f0.type = 26 ∧ f0.offset = 0 ∧ f1.type = 27 ∧ f1.offset = 3 ∧ f2.type = 4 ∧ f2.offset = 6 := ⟨_, _, _, rfl, rfl, rfl, rfl, rfl, rfl, rfl⟩
  obtain ⟨cs, rfl, hsz, _⟩ : ∃ cs, v = .agg cs ∧ cs.size = Tryd.prog.cellsOf 29 ∧ Row.okWide Tryd.prog w r b0 29 cs := by
    simpa [Value.okWide, hu] using hv
  have hct : Tryd.prog.cellsOf 29 = 7 := by kernel_rfl
  rw [hct] at hsz
  obtain ⟨l⟩ := cs
  obtain ⟨c0, c1, c2, c3, c4, c5, c6, rfl⟩ := list7 l hsz
  obtain ⟨fuel, hf⟩ := h
  obtain ⟨x0, x1, x2, n, _, _, h0, h1, h2⟩ := Go.Deep.trod_struct3 hu hf
  have hc3 : Tryd.prog.cellsOf 26 = 3 := by kernel_rfl
  have hc3' : Tryd.prog.cellsOf 27 = 3 := by kernel_rfl
  have hc1 : Tryd.prog.cellsOf 3 = 1 := by kernel_rfl
  have hc1' : Tryd.prog.cellsOf 4 = 1 := by kernel_rfl
  rw [t0, o0, hc3] at h0
  rw [t1, o1, hc3'] at h1
  rw [t2, o2, hc1'] at h2
  have h0 : DataW.trod enc Tryd.prog w base spare held n 26 [c0, c1, c2] = some x0 := h0
  have h1 : DataW.trod enc Tryd.prog w base spare held n 27 [c3, c4, c5] = some x1 := h1
  have h2 : DataW.trod enc Tryd.prog w base spare held n 4 [c6] = some x2 := h2
  obtain ⟨_, _, _, m, _, g0, g1, g2⟩ := trod_array3 Tryd.underlying26 hc1 h0
  obtain ⟨_, _, _, m', _, g3, g4, g5⟩ := trod_array3 Tryd.underlying27 hc1' h1
  obtain ⟨y0, e0, _, w0⟩ := DataW.trod_int Tryd.underlying3 g0
  obtain ⟨y1, e1, _, w1⟩ := DataW.trod_int Tryd.underlying3 g1
  obtain ⟨y2, e2, _, w2⟩ := DataW.trod_int Tryd.underlying3 g2
  obtain ⟨y3, e3, _⟩ := DataW.trod_bool Tryd.underlying4 g3
  obtain ⟨y4, e4, _⟩ := DataW.trod_bool Tryd.underlying4 g4
  obtain ⟨y5, e5, _⟩ := DataW.trod_bool Tryd.underlying4 g5
  obtain ⟨y6, e6, _⟩ := DataW.trod_bool Tryd.underlying4 h2
  simp at e0 e1 e2 e3 e4 e5 e6
  subst e0 e1 e2 e3 e4 e5 e6
  exact ⟨y0, y1, y2, y3, y4, y5, y6, rfl, w0, w1, w2⟩

end Go.Proofs.YtanhhlekbdhfmaaDoor

/-
  How a box among a statement's arguments is opened: six whole numbers.
-/
import Derived.Test.YthakcjpipcmogaaOpen
import Derived.Test.YthakcjpipcmogaaBoxMath
import Derived.ChangeSame
namespace Go.Proofs.Ythakcjpipcmogaa
open Go.ChangeShapes Go.WideShapes Go.ChangeAt Go.RowKit

theorem list6 {α : Type} (l : List α) (h : (⟨l⟩ : Array α).size = 6) : ∃ a b c d e f, l = [a, b, c, d, e, f] := by
  match l, h with
  | [a, b, c, d, e, f], _ => exact ⟨a, b, c, d, e, f, rfl⟩

theorem open_box {w : World} {H : Type} {enc : TypeId × Value → H} {r : Reach} {b0 base : Nat} {spare : Nat → Bool} {held : Bool} {v : Value} {d : DataW H} {p : List MemPlace}
    (hv : Value.okWide Try.prog w r b0 24 v) (h : DataW.Trod enc Try.prog w base spare held 24 v d p) : ∃ b : Bx, v = B6 b := by
  obtain ⟨f0, f1, hu, t0, o0, t1, o1⟩ : ∃ f0 f1, Try.prog.underlying 24 = some (.struct #[f0, f1]) ∧ f0.type = 22 ∧ f0.offset = 0 ∧ f1.type = 22 ∧ f1.offset = 3 := ⟨_, _, rfl, rfl, rfl, rfl, rfl⟩
  obtain ⟨cs, rfl, hsz, _⟩ : ∃ cs, v = .agg cs ∧ cs.size = Try.prog.cellsOf 24 ∧ Row.okWide Try.prog w r b0 24 cs := by
    simpa [Value.okWide, hu] using hv
  have hct : Try.prog.cellsOf 24 = 6 := by kernel_rfl
  rw [hct] at hsz
  obtain ⟨l⟩ := cs
  obtain ⟨c0, c1, c2, c3, c4, c5, rfl⟩ := list6 l hsz
  obtain ⟨fuel, hf⟩ := h
  obtain ⟨x, y, n, _, _, h0, h1⟩ := trod_struct2 hu hf
  have hc3 : Try.prog.cellsOf 22 = 3 := by kernel_rfl
  have hc1 : Try.prog.cellsOf 3 = 1 := by kernel_rfl
  rw [t0, o0, hc3] at h0
  rw [t1, o1, hc3] at h1
  have h0 : DataW.trod enc Try.prog w base spare held n 22 [c0, c1, c2] = some x := h0
  have h1 : DataW.trod enc Try.prog w base spare held n 22 [c3, c4, c5] = some y := h1
  obtain ⟨_, _, _, m, _, g0, g1, g2⟩ := trod_array3 Try.underlying22 hc1 h0
  obtain ⟨_, _, _, m', _, g3, g4, g5⟩ := trod_array3 Try.underlying22 hc1 h1
  obtain ⟨x0, e0, _, _⟩ := DataW.trod_int Try.underlying3 g0
  obtain ⟨x1, e1, _, _⟩ := DataW.trod_int Try.underlying3 g1
  obtain ⟨x2, e2, _, _⟩ := DataW.trod_int Try.underlying3 g2
  obtain ⟨x3, e3, _, _⟩ := DataW.trod_int Try.underlying3 g3
  obtain ⟨x4, e4, _, _⟩ := DataW.trod_int Try.underlying3 g4
  obtain ⟨x5, e5, _, _⟩ := DataW.trod_int Try.underlying3 g5
  simp at e0 e1 e2 e3 e4 e5
  subst e0 e1 e2 e3 e4 e5
  exact ⟨⟨x0, x1, x2, x3, x4, x5⟩, rfl⟩

end Go.Proofs.Ythakcjpipcmogaa

/-
  How a slot, and a list of slots, among a statement's arguments is opened.
-/
import Derived.Test.YtikjgfjahjlbaaaOpen
import Derived.Test.YtikjgfjahjlbaaaOpenSpan
import Derived.Test.YtikjgfjahjlbaaaCalOwn
import Derived.ChangeSame
import Derived.ChangeSlices
namespace Go.Proofs.Ytikjgfjahjlbaaa
open Go.ChangeShapes Go.WideShapes Go.ChangeAt Go.RowKit

theorem listS3 {α : Type} (l : List α) (h : l.length = 3) : ∃ a b c, l = [a, b, c] := by
  match l, h with
  | [a, b, c], _ => exact ⟨a, b, c, rfl⟩

theorem spotS_none {w : World} {a : Addr} {v : Value} (h : w.cell? a = some v) : a.spot = none := by
  unfold World.cell? at h
  split at h
  · split at h
    · cases h
    · rename_i hs
      cases hq : a.spot
      · rfl
      · rw [hq] at hs; exact absurd rfl hs
  · cases h
theorem blockS_lt {w : World} {a : Addr} {v : Value} (h : w.cell? a = some v) : a.block < w.heap.size := by
  unfold World.cell? at h
  split at h
  · rename_i hs
    exact (Array.getElem?_eq_some_iff.1 hs).1
  · cases h

/-- The cells of a slot that came in. -/
theorem slot_cells {w : World} {H : Type} {enc : TypeId × Value → H} {base : Nat} {spare : Nat → Bool} {held : Bool} {fuel : Nat} {cs : List Value} {x : DataW H × List MemPlace}
    (hf : DataW.trod enc Try.prog w base spare held fuel 36 cs = some x) : ∃ f t o : Int, cs = [I f, I t, I o] := by
  obtain ⟨g0, g1, hu', u0, p0, u1, p1⟩ : ∃ f0 f1, Try.prog.underlying 34 = some (.struct #[f0, f1]) ∧ f0.type = 3 ∧ f0.offset = 0 ∧ f1.type = 3 ∧ f1.offset = 1 := ⟨_, _, rfl, rfl, rfl, rfl, rfl⟩
  obtain ⟨f0, f1, hu, t0, o0, t1, o1⟩ : ∃ f0 f1, Try.prog.underlying 36 = some (.struct #[f0, f1]) ∧ f0.type = 34 ∧ f0.offset = 0 ∧ f1.type = 3 ∧ f1.offset = 2 := ⟨_, _, rfl, rfl, rfl, rfl, rfl⟩
  have hct : Try.prog.cellsOf 36 = 3 := by kernel_rfl
  have hcs : Try.prog.cellsOf 34 = 2 := by kernel_rfl
  have hc1 : Try.prog.cellsOf 3 = 1 := by kernel_rfl
  obtain ⟨x, y, n, _, hl, h0, h1⟩ := trod_struct2 hu hf
  rw [hct] at hl
  obtain ⟨c0, c1, c2, rfl⟩ := listS3 cs hl
  rw [t0, o0, hcs] at h0
  rw [t1, o1, hc1] at h1
  have h0 : DataW.trod enc Try.prog w base spare held n 34 [c0, c1] = some x := h0
  have h1 : DataW.trod enc Try.prog w base spare held n 3 [c2] = some y := h1
  obtain ⟨x', y', n', _, _, k0, k1⟩ := trod_struct2 hu' h0
  rw [u0, p0, hc1] at k0
  rw [u1, p1, hc1] at k1
  have k0 : DataW.trod enc Try.prog w base spare held n' 3 [c0] = some x' := k0
  have k1 : DataW.trod enc Try.prog w base spare held n' 3 [c1] = some y' := k1
  obtain ⟨z0, e0, _, _⟩ := DataW.trod_int Try.underlying3 k0
  obtain ⟨z1, e1, _, _⟩ := DataW.trod_int Try.underlying3 k1
  obtain ⟨z2, e2, _, _⟩ := DataW.trod_int Try.underlying3 h1
  simp at e0 e1 e2
  subst e0 e1 e2
  exact ⟨z0, z1, z2, rfl⟩

theorem open_slot {w : World} {H : Type} {enc : TypeId × Value → H} {r : Reach} {b0 base : Nat} {spare : Nat → Bool} {held : Bool} {v : Value} {d : DataW H} {p : List MemPlace}
    (hv : Value.okWide Try.prog w r b0 36 v) (h : DataW.Trod enc Try.prog w base spare held 36 v d p) : ∃ f t o : Int, v = V3 f t o := by
  obtain ⟨f0, f1, hu⟩ : ∃ f0 f1, Try.prog.underlying 36 = some (.struct #[f0, f1]) := ⟨_, _, rfl⟩
  obtain ⟨cs, rfl, hsz, _⟩ : ∃ cs, v = .agg cs ∧ cs.size = Try.prog.cellsOf 36 ∧ Row.okWide Try.prog w r b0 36 cs := by
    simpa [Value.okWide, hu] using hv
  obtain ⟨fuel, hf⟩ := h
  obtain ⟨l⟩ := cs
  obtain ⟨f, t, o, e⟩ := slot_cells hf
  have e : l = [I f, I t, I o] := e
  subst e
  exact ⟨f, t, o, rfl⟩

theorem open_slots {w : World} {H : Type} {enc : TypeId × Value → H} {r : Reach} {b0 base : Nat} {spare : Nat → Bool} {held : Bool} {v : Value} {d : DataW H} {p : List MemPlace}
    (hv : Value.okWide Try.prog w r b0 25 v) (h : DataW.Trod enc Try.prog w base spare held 25 v d p) : ∃ xs : List Slt, Ss w v xs := by
  obtain ⟨a, len, cap, rfl⟩ := okWide_slice Try.underlying25 hv
  obtain ⟨fuel, hf⟩ := h
  have hct : Try.prog.cellsOf 36 = 3 := by kernel_rfl
  rcases DataW.trod_slice Try.underlying25 hf with ⟨hcs, -⟩ | ⟨a0, len0, cap0, elems, rest, n, _, hcs, _, hb, hl, hm, hlen, hel, _, _⟩
  · have e0 : Value.slice a len cap = .slice none 0 0 := by
      have : [Value.slice a len cap] = [.slice none 0 0] := hcs
      exact List.head_eq_of_cons_eq this
    rw [e0]
    exact ⟨[], Ss.nil w⟩
  · have e0 : Value.slice a len cap = .slice (some a0) len0 cap0 := by
      have : [Value.slice a len cap] = [.slice (some a0) len0 cap0] := hcs
      exact List.head_eq_of_cons_eq this
    rw [e0]
    have each : ∀ i, i < len0 → ∃ s : Slt, ∀ j, j < 3 → w.cell? ((a0.add (i * 3)).add j) = (cellsS s)[j]? := by
      intro i hi
      have h1 := hel i hi
      rw [hct, List.getElem?_eq_getElem (by omega)] at h1
      obtain ⟨cs, hc, hy⟩ := Option.bind_eq_some_iff.1 h1
      obtain ⟨f, t, o, rfl⟩ := slot_cells hy
      obtain ⟨_, _, h3⟩ := World.cells?_some hc
      refine ⟨(f, t, o), fun j hj => ?_⟩
      exact h3 j hj
    let g : Nat → Slt := fun i => if h : i < len0 then (each i h).choose else (0, 0, 0)
    have hg : ∀ i, i < len0 → ∀ j, j < 3 → w.cell? ((a0.add (i * 3)).add j) = (cellsS (g i))[j]? := by
      intro i hi
      show ∀ j, j < 3 → w.cell? ((a0.add (i * 3)).add j) = (cellsS (if h : i < len0 then (each i h).choose else (0, 0, 0)))[j]?
      rw [dif_pos hi]
      exact (each i hi).choose_spec
    refine ⟨(List.range len0).map g, some a0, cap0, by simp, by simpa using hl, fun h => (by cases h), fun k hk => ?_⟩
    have hk' : k < len0 := by simpa using hk
    have h0 := hg k hk'
    obtain ⟨b, off, sp⟩ := a0
    have hc00 := hg 0 (by omega) 0 (by omega)
    have hs : sp = none := by
      have := spotS_none (show w.cell? _ = some (I (g 0).1) from hc00)
      simpa [Addr.add] using this
    subst hs
    have hadd : ∀ (x : Nat) (m : Nat), (⟨b, x, none⟩ : Addr).add m = ⟨b, x + m, none⟩ := by
      intro x m
      unfold Addr.add
      split
      · rename_i h0; subst h0; rfl
      · rfl
    have hc0 := h0 0 (by omega)
    have e1 : ((List.range len0).map g).getD k (0, 0, 0) = g k := by simp [hk']
    rw [e1]
    have hc1 := h0 1 (by omega)
    have hc2 := h0 2 (by omega)
    rw [hadd, hadd] at hc0 hc1 hc2
    exact ⟨b, off, rfl, blockS_lt (show w.cell? ⟨b, off + k * 3 + 0, none⟩ = some (I (g k).1) from hc0), hc0, hc1, hc2⟩

end Go.Proofs.Ytikjgfjahjlbaaa

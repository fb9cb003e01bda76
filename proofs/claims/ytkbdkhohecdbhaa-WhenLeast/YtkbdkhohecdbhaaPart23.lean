/-
  How a slot, and a list of slots, among a statement's arguments is opened.
-/
import Derived.Test.YtkbdkhohecdbhaaPart22
import Derived.Test.YtkbdkhohecdbhaaPart4
import Derived.ChangeSame
import Derived.ChangeSlices
import Derived.Test.YtkbdkhohecdbhaaPart15
import Derived.SizedLaws
import Derived.Test.YtkbdkhohecdbhaaPart16
namespace Go.Proofs.Ytkbdkhohecdbhaa
open Go.ChangeShapes Go.WideShapes Go.ChangeAt Go.RowKit

theorem listS3 {α : Type} (l : List α) (h : l.length = 3) : ∃ a b c, l = [a, b, c] := by
  match l, h with
  | [a, b, c], _ => exact ⟨a, b, c, rfl⟩

theorem spotS_none {w : World} {a : Addr} {v : Value} (h : w.cell? a = some v) : a.spot = none := by
  unfold World.cell? at h
  split at h
  · split at h
    · cases h
    · rename_i hs
      cases hq : a.spot
      · rfl
      · rw [hq] at hs; exact absurd rfl hs
  · cases h
theorem blockS_lt {w : World} {a : Addr} {v : Value} (h : w.cell? a = some v) : a.block < w.heap.size := by
  unfold World.cell? at h
  split at h
  · rename_i hs
    exact (Array.getElem?_eq_some_iff.1 hs).1
  · cases h

set_option maxRecDepth 100000 in
/-- The cells of a slot that came in. -/
theorem slot_cells {w : World} {H : Type} {enc : TypeId × Value → H} {base : Nat} {spare : Nat → Bool} {held : Bool} {fuel : Nat} {cs : List Value} {x : DataW H × List MemPlace}
    (hf : DataW.trod enc Try.prog w base spare held fuel 66 cs = some x) : ∃ f t o : Int, cs = [I f, I t, I o] := by
  obtain ⟨g0, g1, hu', u0, p0, u1, p1⟩ : ∃ f0 f1, Try.prog.underlying 53 = some (.struct #[f0, f1]) ∧ f0.type = 3 ∧ f0.offset = 0 ∧ f1.type = 3 ∧ f1.offset = 1 := ⟨_, _, rfl, rfl, rfl, rfl, rfl⟩
  obtain ⟨f0, f1, hu, t0, o0, t1, o1⟩ : ∃ f0 f1, Try.prog.underlying 66 = some (.struct #[f0, f1]) ∧ f0.type = 53 ∧ f0.offset = 0 ∧ f1.type = 3 ∧ f1.offset = 2 := ⟨_, _, rfl, rfl, rfl, rfl, rfl⟩
  have hct : Try.prog.cellsOf 66 = 3 := by kernel_rfl
  have hcs : Try.prog.cellsOf 53 = 2 := by kernel_rfl
  have hc1 : Try.prog.cellsOf 3 = 1 := by kernel_rfl
  obtain ⟨x, y, n, _, hl, h0, h1⟩ := trod_struct2 hu hf
  rw [hct] at hl
  obtain ⟨c0, c1, c2, rfl⟩ := listS3 cs hl
  rw [t0, o0, hcs] at h0
  rw [t1, o1, hc1] at h1
  have h0 : DataW.trod enc Try.prog w base spare held n 53 [c0, c1] = some x := h0
  have h1 : DataW.trod enc Try.prog w base spare held n 3 [c2] = some y := h1
  obtain ⟨x', y', n', _, _, k0, k1⟩ := trod_struct2 hu' h0
  rw [u0, p0, hc1] at k0
  rw [u1, p1, hc1] at k1
  have k0 : DataW.trod enc Try.prog w base spare held n' 3 [c0] = some x' := k0
  have k1 : DataW.trod enc Try.prog w base spare held n' 3 [c1] = some y' := k1
  obtain ⟨z0, e0, _, _⟩ := DataW.trod_int Try.underlying3 k0
  obtain ⟨z1, e1, _, _⟩ := DataW.trod_int Try.underlying3 k1
  obtain ⟨z2, e2, _, _⟩ := DataW.trod_int Try.underlying3 h1
  simp at e0 e1 e2
  subst e0 e1 e2
  exact ⟨z0, z1, z2, rfl⟩

set_option maxRecDepth 100000 in
theorem open_slot {w : World} {H : Type} {enc : TypeId × Value → H} {r : Reach} {b0 base : Nat} {spare : Nat → Bool} {held : Bool} {v : Value} {d : DataW H} {p : List MemPlace}
    (hv : Value.okWide Try.prog w r b0 66 v) (h : DataW.Trod enc Try.prog w base spare held 66 v d p) : ∃ f t o : Int, v = V3 f t o := by
  obtain ⟨f0, f1, hu⟩ : ∃ f0 f1, Try.prog.underlying 66 = some (.struct #[f0, f1]) := ⟨_, _, rfl⟩
  obtain ⟨cs, rfl, hsz, _⟩ : ∃ cs, v = .agg cs ∧ cs.size = Try.prog.cellsOf 66 ∧ Row.okWide Try.prog w r b0 66 cs := by
    simpa [Value.okWide, hu] using hv
  obtain ⟨fuel, hf⟩ := h
  obtain ⟨l⟩ := cs
  obtain ⟨f, t, o, e⟩ := slot_cells hf
  have e : l = [I f, I t, I o] := e
  subst e
  exact ⟨f, t, o, rfl⟩

set_option maxRecDepth 100000 in
theorem open_slots {w : World} {H : Type} {enc : TypeId × Value → H} {r : Reach} {b0 base : Nat} {spare : Nat → Bool} {held : Bool} {v : Value} {d : DataW H} {p : List MemPlace}
    (hv : Value.okWide Try.prog w r b0 72 v) (h : DataW.Trod enc Try.prog w base spare held 72 v d p) : ∃ xs : List Slt, Ss w v xs := by
  obtain ⟨a, len, cap, rfl⟩ := okWide_slice Try.underlying72 hv
  obtain ⟨fuel, hf⟩ := h
  have hct : Try.prog.cellsOf 66 = 3 := by kernel_rfl
  rcases DataW.trod_slice Try.underlying72 hf with ⟨hcs, -⟩ | ⟨a0, len0, cap0, elems, rest, n, _, hcs, _, hb, hl, hm, hlen, hel, _, _⟩
  · have e0 : Value.slice a len cap = .slice none 0 0 := by
      have : [Value.slice a len cap] = [.slice none 0 0] := hcs
      exact List.head_eq_of_cons_eq this
    rw [e0]
    exact ⟨[], Ss.nil w⟩
  · have e0 : Value.slice a len cap = .slice (some a0) len0 cap0 := by
      have : [Value.slice a len cap] = [.slice (some a0) len0 cap0] := hcs
      exact List.head_eq_of_cons_eq this
    rw [e0]
    have each : ∀ i, i < len0 → ∃ s : Slt, ∀ j, j < 3 → w.cell? ((a0.add (i * 3)).add j) = (cellsS s)[j]? := by
      intro i hi
      have h1 := hel i hi
      rw [hct, List.getElem?_eq_getElem (by omega)] at h1
      obtain ⟨cs, hc, hy⟩ := Option.bind_eq_some_iff.1 h1
      obtain ⟨f, t, o, rfl⟩ := slot_cells hy
      obtain ⟨_, _, h3⟩ := World.cells?_some hc
      refine ⟨(f, t, o), fun j hj => ?_⟩
      exact h3 j hj
    let g : Nat → Slt := fun i => if h : i < len0 then (each i h).choose else (0, 0, 0)
    have hg : ∀ i, i < len0 → ∀ j, j < 3 → w.cell? ((a0.add (i * 3)).add j) = (cellsS (g i))[j]? := by
      intro i hi
      show ∀ j, j < 3 → w.cell? ((a0.add (i * 3)).add j) = (cellsS (if h : i < len0 then (each i h).choose else (0, 0, 0)))[j]?
      rw [dif_pos hi]
      exact (each i hi).choose_spec
    refine ⟨(List.range len0).map g, some a0, cap0, by simp, by simpa using hl, fun h => (by cases h), fun k hk => ?_⟩
    have hk' : k < len0 := by simpa using hk
    have h0 := hg k hk'
    obtain ⟨b, off, sp⟩ := a0
    have hc00 := hg 0 (by omega) 0 (by omega)
    have hs : sp = none := by
      have := spotS_none (show w.cell? _ = some (I (g 0).1) from hc00)
      simpa [Addr.add] using this
    subst hs
    have hadd : ∀ (x : Nat) (m : Nat), (⟨b, x, none⟩ : Addr).add m = ⟨b, x + m, none⟩ := by
      intro x m
      unfold Addr.add
      split
      · rename_i h0; subst h0; rfl
      · rfl
    have hc0 := h0 0 (by omega)
    have e1 : ((List.range len0).map g).getD k (0, 0, 0) = g k := by simp [hk']
    rw [e1]
    have hc1 := h0 1 (by omega)
    have hc2 := h0 2 (by omega)
    rw [hadd, hadd] at hc0 hc1 hc2
    exact ⟨b, off, rfl, blockS_lt (show w.cell? ⟨b, off + k * 3 + 0, none⟩ = some (I (g k).1) from hc0), hc0, hc1, hc2⟩

end Go.Proofs.Ytkbdkhohecdbhaa

/-
  How a machine's calendars among a statement's arguments are opened: their dimensions, and the two lists of calendars, none longer than an address space.
-/
namespace Go.Proofs.Ytkbdkhohecdbhaa
open Go.ChangeShapes Go.WideShapes Go.ChangeAt Go.RowKit

/-- What is read takes no more than the platform's reach. -/
def Fits {H : Type} (t : TypeId) (d : DataW H) : Prop := ∀ n ∈ d.weights Try.prog t, n ≤ reachBytes

theorem addN (b : Nat) : ∀ (x m : Nat), (⟨b, x, none⟩ : Addr).add m = ⟨b, x + m, none⟩ := by
  intro x m
  unfold Addr.add
  split
  · rename_i h0; subst h0; rfl
  · rfl

set_option maxRecDepth 100000 in
theorem slots_of_trod {w : World} {H : Type} {enc : TypeId × Value → H} {base : Nat} {spare : Nat → Bool} {held : Bool} {fuel : Nat} {cs : List Value} {x : DataW H × List MemPlace}
    (hf : DataW.trod enc Try.prog w base spare held fuel 72 cs = some x) : ∃ u xs, cs = [u] ∧ Ss w u xs ∧ (Fits 72 x.1 → xs.length ≤ 8796093022208) := by
  have hct : Try.prog.cellsOf 66 = 3 := by kernel_rfl
  have hby : Try.prog.bytesOf 66 = 24 := by kernel_rfl
  rcases DataW.trod_slice Try.underlying72 hf with ⟨hcs, -⟩ | ⟨a0, len0, cap0, elems, rest, n, _, hcs, hx, hb, hl, hm, hlen, hel, _, _⟩
  · exact ⟨_, [], hcs, Ss.nil w, fun _ => by simp⟩
  · have each : ∀ i, i < len0 → ∃ s : Slt, ∀ j, j < 3 → w.cell? ((a0.add (i * 3)).add j) = (cellsS s)[j]? := by
      intro i hi
      have h1 := hel i hi
      rw [hct, List.getElem?_eq_getElem (by omega)] at h1
      obtain ⟨cs, hc, hy⟩ := Option.bind_eq_some_iff.1 h1
      obtain ⟨f, t, o, rfl⟩ := slot_cells hy
      obtain ⟨_, _, h3⟩ := World.cells?_some hc
      exact ⟨(f, t, o), fun j hj => h3 j hj⟩
    let g : Nat → Slt := fun i => if h : i < len0 then (each i h).choose else (0, 0, 0)
    have hg : ∀ i, i < len0 → ∀ j, j < 3 → w.cell? ((a0.add (i * 3)).add j) = (cellsS (g i))[j]? := by
      intro i hi
      show ∀ j, j < 3 → w.cell? ((a0.add (i * 3)).add j) = (cellsS (if h : i < len0 then (each i h).choose else (0, 0, 0)))[j]?
      rw [dif_pos hi]
      exact (each i hi).choose_spec
    refine ⟨_, (List.range len0).map g, hcs, ⟨some a0, cap0, by simp, by simpa using hl, fun h => (by cases h), fun k hk => ?_⟩, fun hF => ?_⟩
    · have hk' : k < len0 := by simpa using hk
      have h0 := hg k hk'
      obtain ⟨b, off, sp⟩ := a0
      have hc00 := hg 0 (by omega) 0 (by omega)
      have hs : sp = none := by
        have := spotS_none (show w.cell? _ = some (I (g 0).1) from hc00)
        simpa [Addr.add] using this
      subst hs
      have hc0 := h0 0 (by omega)
      have e1 : ((List.range len0).map g).getD k (0, 0, 0) = g k := by simp [hk']
      rw [e1]
      have hc1 := h0 1 (by omega)
      have hc2 := h0 2 (by omega)
      rw [addN, addN] at hc0 hc1 hc2
      exact ⟨b, off, rfl, blockS_lt (show w.cell? ⟨b, off + k * 3 + 0, none⟩ = some (I (g k).1) from hc0), hc0, hc1, hc2⟩
    · rw [hx] at hF
      have := hF ((elems.length + rest.length) * Try.prog.bytesOf 66) (by simp [DataW.weights, Try.underlying72])
      rw [hby] at this
      unfold reachBytes at this
      simp
      omega

set_option maxRecDepth 100000 in
theorem cals_of_trod {w : World} {H : Type} {enc : TypeId × Value → H} {base : Nat} {spare : Nat → Bool} {held : Bool} {fuel : Nat} {cs : List Value} {x : DataW H × List MemPlace}
    (hf : DataW.trod enc Try.prog w base spare held fuel 24 cs = some x) : ∃ u ns, cs = [u] ∧ Yl w u ns ∧ (Fits 24 x.1 → ns.length ≤ 8796093022208 ∧ ∀ k, (ns.getD k []).length ≤ 8796093022208) := by
  have hct : Try.prog.cellsOf 72 = 1 := by kernel_rfl
  have hby : Try.prog.bytesOf 72 = 24 := by kernel_rfl
  rcases DataW.trod_slice Try.underlying24 hf with ⟨hcs, -⟩ | ⟨a0, len0, cap0, elems, rest, n, _, hcs, hx, hb, hl, hm, hlen, hel, _, _⟩
  · exact ⟨_, [], hcs, Yl.nil w, fun _ => ⟨by simp, fun k => by simp⟩⟩
  · have hfit : Fits 24 x.1 → ∀ i (hi : i < elems.length), Fits 72 (elems[i]).1 := by
      intro hF i hi m hm'
      rw [hx] at hF
      refine hF m ?_
      have hmem : ∀ (l : List (DataW H)) (d : DataW H), d ∈ l → ∀ m ∈ d.weights Try.prog 72, m ∈ DataW.weightsAll Try.prog 72 l := by
        intro l
        induction l with
        | nil => intro d hd; cases hd
        | cons y l ih =>
          intro d hd m hm
          simp only [DataW.weightsAll, List.mem_append]
          rcases List.mem_cons.1 hd with rfl | hd
          · exact .inl hm
          · exact .inr (ih d hd m hm)
      simp only [DataW.weights, Try.underlying24, List.mem_cons, List.mem_append]
      exact .inr (.inl (hmem _ (elems[i]).1 (List.mem_map.2 ⟨_, List.getElem_mem hi, rfl⟩) m hm'))
    have each : ∀ i, i < len0 → ∃ (u : Value) (xs : List Slt), w.cell? (a0.add i) = some u ∧ Ss w u xs ∧ (Fits 24 x.1 → xs.length ≤ 8796093022208) := by
      intro i hi
      have h1 := hel i hi
      rw [hct, Nat.mul_one, List.getElem?_eq_getElem (by omega)] at h1
      obtain ⟨cs, hc, hy⟩ := Option.bind_eq_some_iff.1 h1
      obtain ⟨u, xs, rfl, hS, hB⟩ := slots_of_trod hy
      obtain ⟨_, _, h3⟩ := World.cells?_some hc
      have h30 := h3 0 (by omega)
      have e0 : (a0.add i).add 0 = a0.add i := by simp [Addr.add]
      rw [e0] at h30
      exact ⟨u, xs, h30, hS, fun hF => hB (hfit hF i (by omega))⟩
    let g : Nat → List Slt := fun i => if h : i < len0 then (each i h).choose_spec.choose else []
    have hg : ∀ i, i < len0 → ∃ u, w.cell? (a0.add i) = some u ∧ Ss w u (g i) ∧ (Fits 24 x.1 → (g i).length ≤ 8796093022208) := by
      intro i hi
      show ∃ u, w.cell? (a0.add i) = some u ∧ Ss w u (if h : i < len0 then (each i h).choose_spec.choose else []) ∧ (Fits 24 x.1 → (if h : i < len0 then (each i h).choose_spec.choose else []).length ≤ 8796093022208)
      rw [dif_pos hi]
      exact ⟨_, (each i hi).choose_spec.choose_spec⟩
    refine ⟨_, (List.range len0).map g, hcs, ⟨some a0, cap0, by simp, fun k hk => ?_⟩, fun hF => ⟨?_, fun k => ?_⟩⟩
    · have hk' : k < len0 := by simpa using hk
      obtain ⟨u, hc, hS, _⟩ := hg k hk'
      obtain ⟨b, off, sp⟩ := a0
      have hs : sp = none := by
        obtain ⟨u', hc', _⟩ := hg 0 (by omega)
        have h5 := spotS_none hc'
        simpa [Addr.add] using h5
      subst hs
      rw [addN] at hc
      have e1 : ((List.range len0).map g).getD k [] = g k := by simp [hk']
      rw [e1]
      exact ⟨b, off, u, rfl, blockS_lt hc, hc, hS⟩
    · rw [hx] at hF
      have := hF ((elems.length + rest.length) * Try.prog.bytesOf 72) (by simp [DataW.weights, Try.underlying24])
      rw [hby] at this
      unfold reachBytes at this
      simp
      omega
    · by_cases hk : k < len0
      · obtain ⟨u, _, _, h3⟩ := hg k hk
        have e1 : ((List.range len0).map g).getD k [] = g k := by simp [hk]
        rw [e1]
        exact h3 hF
      · simp [hk]

/-- Lists that a call may have been handed: how many, and how long. -/
structure Lids (cs : List (List Slt)) : Prop where
  many : cs.length ≤ 8796093022208
  long : ∀ k, (cs.getD k []).length ≤ 8796093022208

theorem list5 {α : Type} (l : List α) (h : l.length = 5) : ∃ a b c d e, l = [a, b, c, d, e] := by
  match l, h with
  | [a, b, c, d, e], _ => exact ⟨a, b, c, d, e, rfl⟩

set_option maxRecDepth 100000 in
theorem open_yard {w : World} {H : Type} {enc : TypeId × Value → H} {r : Reach} {b0 base : Nat} {spare : Nat → Bool} {held : Bool} {v : Value} {d : DataW H} {p : List MemPlace} {ts : List TypeId} {ds : List (DataW H)} {j : Nat}
    (hv : Value.okWide Try.prog w r b0 26 v) (h : DataW.Trod enc Try.prog w base spare held 26 v d p) (ht : ts[j]? = some 26) (hd : ds[j]? = some d) (hsz : (DataW.weightsEach Try.prog ts ds).all (· ≤ reachBytes) = true) :
    ∃ (a b c : Int) (n l : Value) (ns ls : List (List Slt)), v = Y5 a b c n l ∧ Yl w n ns ∧ Yl w l ls ∧ Lids ns ∧ Lids ls := by
  obtain ⟨f0, f1, f2, hu, t0, o0, t1, o1, t2, o2⟩ : ∃ f0 f1 f2, Try.prog.underlying 26 = some (.struct #[f0, f1, f2]) ∧ f0.type = 23 ∧ f0.offset = 0 ∧ f1.type = 24 ∧ f1.offset = 3 ∧ f2.type = 24 ∧ f2.offset = 4 := ⟨_, _, _, rfl, rfl, rfl, rfl, rfl, rfl, rfl⟩
  obtain ⟨cs, rfl, hsize, _⟩ : ∃ cs, v = .agg cs ∧ cs.size = Try.prog.cellsOf 26 ∧ Row.okWide Try.prog w r b0 26 cs := by
    simpa [Value.okWide, hu] using hv
  have hct : Try.prog.cellsOf 26 = 5 := by kernel_rfl
  have hc3 : Try.prog.cellsOf 23 = 3 := by kernel_rfl
  have hc1 : Try.prog.cellsOf 24 = 1 := by kernel_rfl
  have hci : Try.prog.cellsOf 3 = 1 := by kernel_rfl
  rw [hct] at hsize
  obtain ⟨l⟩ := cs
  obtain ⟨c0, c1, c2, c3, c4, rfl⟩ := list5 l hsize
  obtain ⟨fuel, hf⟩ := h
  obtain ⟨xs, n, _, hx, hl, hlen, hfs⟩ := DataW.trod_struct hu hf
  obtain ⟨y0, y1, y2, rfl⟩ := listS3 xs hlen
  have h0 := hfs 0 f0 rfl
  have h1 := hfs 1 f1 rfl
  have h2 := hfs 2 f2 rfl
  rw [t0, o0, hc3] at h0
  rw [t1, o1, hc1] at h1
  rw [t2, o2, hc1] at h2
  have h0 : DataW.trod enc Try.prog w base spare held n 23 [c0, c1, c2] = some y0 := h0
  have h1 : DataW.trod enc Try.prog w base spare held n 24 [c3] = some y1 := h1
  have h2 : DataW.trod enc Try.prog w base spare held n 24 [c4] = some y2 := h2
  obtain ⟨_, _, _, m, _, g0, g1, g2⟩ := trod_array3 Try.underlying23 hci h0
  obtain ⟨x0, e0, _, _⟩ := DataW.trod_int Try.underlying3 g0
  obtain ⟨x1, e1, _, _⟩ := DataW.trod_int Try.underlying3 g1
  obtain ⟨x2, e2, _, _⟩ := DataW.trod_int Try.underlying3 g2
  simp at e0 e1 e2
  subst e0 e1 e2
  obtain ⟨u1, ns, E1, hN, bN⟩ := cals_of_trod h1
  obtain ⟨u2, ls, E2, hL, bL⟩ := cals_of_trod h2
  obtain rfl := List.head_eq_of_cons_eq E1
  obtain rfl := List.head_eq_of_cons_eq E2
  have hW : ∀ m ∈ d.weights Try.prog 26, m ≤ reachBytes := fun m hm => by
    have := List.all_eq_true.1 hsz m (DataW.weights_mem_each ht hd m hm)
    simpa using this
  have hdd : d = .agg [y0.1, y1.1, y2.1] := congrArg Prod.fst hx
  rw [hdd] at hW
  have hfit : ∀ (i : Nat) (t : TypeId) (y : DataW H), [23, 24, 24][i]? = some t → [y0.1, y1.1, y2.1][i]? = some y → Fits t y := fun i t y hi hy m hm => hW m (by
    simp only [DataW.weights, hu]
    rw [show (#[f0, f1, f2] : Array Field).toList.map (·.type) = [23, 24, 24] by simp [t0, t1, t2]]
    exact DataW.weights_mem_each hi hy m hm)
  have F1 := bN (hfit 1 _ _ rfl rfl)
  have F2 := bL (hfit 2 _ _ rfl rfl)
  exact ⟨x0, x1, x2, c3, c4, ns, ls, rfl, hN, hL, ⟨F1.1, F1.2⟩, ⟨F2.1, F2.2⟩⟩

end Go.Proofs.Ytkbdkhohecdbhaa

/-
  tidehallref09.Great: how many calendars, and slots.
-/
namespace Go.Proofs.Ytkbdkhohecdbhaa
open Go Go.RowKit Go.Shelf

attribute [local go_sem] Oper.semAt_some ext_const

/-- The sum of the calendars' lengths, as an int has it. -/
def sumW (s : Int) (cs : List (List Slt)) : Nat → Int
  | 0 => s
  | k + 1 => wrap64 (sumW s cs k + ((cs.getD k []).length : Int))
def sumN (cs : List (List Slt)) : Nat → Nat
  | 0 => 0
  | k + 1 => sumN cs k + (cs.getD k []).length
theorem sumN_le {cs : List (List Slt)} {B : Nat} (h : ∀ k, (cs.getD k []).length ≤ B) : ∀ k, sumN cs k ≤ k * B
  | 0 => by simp [sumN]
  | k + 1 => by
    have := sumN_le h k
    have hk := h k
    rw [sumN, Nat.succ_mul]
    omega
theorem sumN_mono {cs : List (List Slt)} : ∀ {j k : Nat}, j < k → (cs.getD j []).length ≤ sumN cs k
  | j, 0, h => by omega
  | j, k + 1, h => by
    rw [sumN]
    by_cases e : j = k
    · subst e; omega
    · have := sumN_mono (cs := cs) (show j < k by omega); omega
theorem sumW_is {cs : List (List Slt)} {s : Int} (hs : 0 ≤ s) : ∀ k, s + sumN cs k ≤ 4611686018427387904 → sumW s cs k = s + sumN cs k
  | 0, _ => by simp [sumW, sumN]
  | k + 1, h => by
    rw [sumN] at h ⊢
    rw [sumW, sumW_is hs k (by omega), wrap_in _ (by omega)]
    omega
def totalY (ns ls : List (List Slt)) : Int := sumW (sumW 0 ns ns.length) ls ls.length
def greatB (ns ls : List (List Slt)) : Bool := decide (200 < (ns.length : Int)) || (decide (600 < (ls.length : Int)) || decide (10000 < totalY ns ls))
/-- Calendars that are not great. -/
structure Small (ns ls : List (List Slt)) : Prop where
  nodes : ns.length ≤ 200
  links : ls.length ≤ 600
  node : ∀ k, (ns.getD k []).length ≤ 10000
  link : ∀ k, (ls.getD k []).length ≤ 10000
theorem small_of {ns ls : List (List Slt)} (h1 : Lids ns) (h2 : Lids ls) (h : greatB ns ls = false) : Small ns ls := by
  unfold greatB at h
  rw [Bool.or_eq_false_iff, Bool.or_eq_false_iff] at h
  obtain ⟨a, b, c⟩ := h
  have a := of_decide_eq_false a
  have b := of_decide_eq_false b
  have c := of_decide_eq_false c
  have b1 := sumN_le h1.long ns.length
  have b2 := sumN_le h2.long ls.length
  have m1 : ns.length * 8796093022208 ≤ 200 * 8796093022208 := Nat.mul_le_mul_right _ (by omega)
  have m2 : ls.length * 8796093022208 ≤ 600 * 8796093022208 := Nat.mul_le_mul_right _ (by omega)
  have e1 : sumW 0 ns ns.length = (sumN ns ns.length : Int) := by rw [sumW_is (by omega) _ (by omega)]; omega
  have e2 : totalY ns ls = (sumN ns ns.length : Int) + sumN ls ls.length := by unfold totalY; rw [e1, sumW_is (by omega) _ (by omega)]
  rw [e2] at c
  refine ⟨by omega, by omega, fun k => ?_, fun k => ?_⟩
  · by_cases hk : k < ns.length
    · have := sumN_mono (cs := ns) hk; omega
    · simp [hk]
  · by_cases hk : k < ls.length
    · have := sumN_mono (cs := ls) hk; omega
    · simp [hk]

set_option maxRecDepth 100000 in
set_option maxHeartbeats 8000000 in
theorem great_calls {a b c : Int} {n l : Value} {ns ls : List (List Slt)} (w : World) (hN : Yl w n ns) (hL : Yl w l ls) (h1 : Lids ns) (h2 : Lids ls) : Calls Try.prog 13 #[Y5 a b c n l] w fun e W' => e = .returned (.bool (greatB ns ls)) ∧ Below w.heap.size w W' := by
  obtain ⟨W, hW, hB, hK⟩ := one_start w (K5 a b c n l) 26
  have HW : Hid (w.alloc (.cells (K5 a b c n l) 26) = W) := hW
  obtain ⟨an, cn, rfl, hN⟩ := hN.form
  obtain ⟨al, cl, rfl, hL⟩ := hL.form
  have HN : Hid (Yl W (.slice an ns.length cn) ns) := hN.later hB
  have HL : Hid (Yl W (.slice al ls.length cl) ls) := hL.later hB
  have hn := h1.many
  have hl := h2.many
  have HS1 : Hid (∀ k : Nat, sumW 0 ns (k + 1) = wrap64 (sumW 0 ns k + ((ns.getD k []).length : Int))) := fun k => rfl
  have HS2 : Hid (∀ k : Nat, sumW (sumW 0 ns ns.length) ls (k + 1) = wrap64 (sumW (sumW 0 ns ns.length) ls k + ((ls.getD k []).length : Int))) := fun k => rfl
  have HZ1 : Hid (sumW 0 ns 0 = 0) := rfl
  have HZ2 : Hid (sumW (sumW 0 ns ns.length) ls 0 = sumW 0 ns ns.length) := rfl
  have HG : Hid (greatB ns ls = (decide (200 < (ns.length : Int)) || (decide (600 < (ls.length : Int)) || decide (10000 < sumW (sumW 0 ns ns.length) ls ls.length)))) := rfl
  generalize greatB ns ls = ans at *
  generalize sumW (sumW 0 ns ns.length) ls = s2 at *
  generalize sumW 0 ns = s1 at *
  clear hW hN hL h1 h2
  obtain ⟨p0, p1, p2, p3, p4, hz⟩ := hK.five
  go_enter Try.func13, Try.ntmps13
  go_wp2
  rw [HW.out]
  go_loopw [3, 4] (fun s i wr => ∃ k : Nat, k ≤ ns.length ∧ i = .int .i64 k ∧ s = .int .i64 (s1 k) ∧ wr = W) (fun _ i _ => ns.length - (RowKit.intOf i).toNat)
  case atStart => exact ⟨0, by omega, rfl, by rw [HZ1.out], rfl⟩
  case round =>
    obtain ⟨k, hk, rfl, rfl, hwr⟩ := hrel
    subst hwr
    by_cases hlt : (k : Int) < (ns.length : Int)
    · have hk' : k < ns.length := by omega
      obtain ⟨g, off, bo, m, c', rfl, hg, hcc, hm, _⟩ := HN.out.at hk'
      have HE : Hid (s1 (k + 1) = wrap64 (s1 k + (m : Int))) := by show _ = _; rw [HS1.out, hm]
      clear hm
      go_wp2
      go_roundw
      case rel => exact ⟨k + 1, by omega, by go_num, by rw [HE.out], by trivial⟩
      case measure => simp [RowKit.intOf]; omega
    · obtain rfl : k = ns.length := by omega
      go_wp2
      go_loopw [3, 5] (fun s i wx => ∃ k : Nat, k ≤ ls.length ∧ i = .int .i64 k ∧ s = .int .i64 (s2 k) ∧ wx = wr) (fun _ i _ => ls.length - (RowKit.intOf i).toNat)
      case atStart => exact ⟨0, by omega, rfl, by rw [HZ2.out], rfl⟩
      case round =>
        obtain ⟨k, hk, rfl, rfl, hwx⟩ := hrel
        subst hwx
        by_cases hlt : (k : Int) < (ls.length : Int)
        · have hk' : k < ls.length := by omega
          obtain ⟨g, off, bo, m, c', rfl, hg, hcc, hm, _⟩ := HL.out.at hk'
          have HE : Hid (s2 (k + 1) = wrap64 (s2 k + (m : Int))) := by show _ = _; rw [HS2.out, hm]
          clear hm
          go_wp2
          go_roundw
          case rel => exact ⟨k + 1, by omega, by go_num, by rw [HE.out], by trivial⟩
          case measure => simp [RowKit.intOf]; omega
        · obtain rfl : k = ls.length := by omega
          have hA := HG.out
          clear HS1 HS2 HZ1 HZ2 HG
          generalize s2 ls.length = z at *
          generalize ns.length = nn at *
          generalize ls.length = ll at *
          by_cases g1 : 200 < (nn : Int)
          · rw [decide_eq_true g1, Bool.true_or] at hA
            subst hA
            go_wp2
            go_ret
            exact ⟨rfl, hB⟩
          · have g1 : decide (200 < (nn : Int)) = false := decide_eq_false g1
            rw [g1, Bool.false_or] at hA
            by_cases g2 : 600 < (ll : Int)
            · rw [decide_eq_true g2, Bool.true_or] at hA
              subst hA
              go_wp2
              go_ret
              exact ⟨rfl, hB⟩
            · have g2 : decide (600 < (ll : Int)) = false := decide_eq_false g2
              rw [g2, Bool.false_or] at hA
              subst hA
              go_wp2
              go_ret
              exact ⟨rfl, hB⟩

end Go.Proofs.Ytkbdkhohecdbhaa

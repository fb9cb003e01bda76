/-
  How a machine's calendars among a statement's arguments are opened: their dimensions, and the two lists of calendars, none longer than an address space.
-/
import Derived.Test.YtldcagjnngkabaaGreatDoorPart27
import Derived.Test.YtldcagjnngkabaaGreatDoorPart12
import Derived.SizedLaws
import Derived.Test.YtldcagjnngkabaaGreatDoorPart13
import Derived.Test.YtldcagjnngkabaaGreatDoorPart16
import Derived.Lib.SlKeysI
import Derived.Maps.OwnSet
import Derived.Test.YtldcagjnngkabaaGreatDoorPart5
import Derived.RangeFuncNested
import Derived.RangeFuncWrites
import Derived.RangeFuncLeaves
import Derived.LoopNIn
import Derived.LoopIn
import Derived.TacticsInMore
import Derived.OwnWalkIn
import Derived.Shelf.SlIterI.Nil
import Derived.Shelf.SortM.Plain
import Derived.Shelf.SortM.SortNone
import Derived.Shelf.Lay
import Derived.Ground.GgzProg
import Derived.Ground.SlgmProg
namespace Go.Proofs.YtldcagjnngkabaaGreatDoor
open Go.ChangeShapes Go.WideShapes Go.ChangeAt Go.RowKit

/-- What is read takes no more than the platform's reach. -/
def Fits {H : Type} (t : TypeId) (d : DataW H) : Prop := ∀ n ∈ d.weights Tryz.prog t, n ≤ reachBytes

theorem addN (b : Nat) : ∀ (x m : Nat), (⟨b, x, none⟩ : Addr).add m = ⟨b, x + m, none⟩ := by
  intro x m
  unfold Addr.add
  split
  · rename_i h0; subst h0; rfl
  · rfl

set_option maxRecDepth 100000 in
theorem slots_of_trod {w : World} {H : Type} {enc : TypeId × Value → H} {base : Nat} {spare : Nat → Bool} {held : Bool} {fuel : Nat} {cs : List Value} {x : DataW H × List MemPlace}
    (hf : DataW.trod enc Tryz.prog w base spare held fuel 79 cs = some x) : ∃ u xs, cs = [u] ∧ Ss w u xs ∧ (Fits 79 x.1 → xs.length ≤ 8796093022208) := by
  have hct : Tryz.prog.cellsOf 85 = 3 := by kernel_rfl
  have hby : Tryz.prog.bytesOf 85 = 24 := by kernel_rfl
  rcases DataW.trod_slice Tryz.underlying79 hf with ⟨hcs, -⟩ | ⟨a0, len0, cap0, elems, rest, n, _, hcs, hx, hb, hl, hm, hlen, hel, _, _⟩
  · exact ⟨_, [], hcs, Ss.nil w, fun _ => by simp⟩
  · have each : ∀ i, i < len0 → ∃ s : Slt, ∀ j, j < 3 → w.cell? ((a0.add (i * 3)).add j) = (cellsS s)[j]? := by
      intro i hi
      have h1 := hel i hi
      rw [hct, List.getElem?_eq_getElem (by omega)] at h1
      obtain ⟨cs, hc, hy⟩ := Option.bind_eq_some_iff.1 h1
      obtain ⟨f, t, o, rfl⟩ := slot_cells hy
      obtain ⟨_, _, h3⟩ := World.cells?_some hc
      exact ⟨(f, t, o), fun j hj => h3 j hj⟩
    let g : Nat → Slt := fun i => if h : i < len0 then (each i h).choose else (0, 0, 0)
    have hg : ∀ i, i < len0 → ∀ j, j < 3 → w.cell? ((a0.add (i * 3)).add j) = (cellsS (g i))[j]? := by
      intro i hi
      show ∀ j, j < 3 → w.cell? ((a0.add (i * 3)).add j) = (cellsS (if h : i < len0 then (each i h).choose else (0, 0, 0)))[j]?
      rw [dif_pos hi]
      exact (each i hi).choose_spec
    refine ⟨_, (List.range len0).map g, hcs, ⟨some a0, cap0, by simp, by simpa using hl, fun h => (by cases h), fun k hk => ?_⟩, fun hF => ?_⟩
    · have hk' : k < len0 := by simpa using hk
      have h0 := hg k hk'
      obtain ⟨b, off, sp⟩ := a0
      have hc00 := hg 0 (by omega) 0 (by omega)
      have hs : sp = none := by
        have := spotS_none (show w.cell? _ = some (I (g 0).1) from hc00)
        simpa [Addr.add] using this
      subst hs
      have hc0 := h0 0 (by omega)
      have e1 : ((List.range len0).map g).getD k (0, 0, 0) = g k := by simp [hk']
      rw [e1]
      have hc1 := h0 1 (by omega)
      have hc2 := h0 2 (by omega)
      rw [addN, addN] at hc0 hc1 hc2
      exact ⟨b, off, rfl, blockS_lt (show w.cell? ⟨b, off + k * 3 + 0, none⟩ = some (I (g k).1) from hc0), hc0, hc1, hc2⟩
    · rw [hx] at hF
      have := hF ((elems.length + rest.length) * Tryz.prog.bytesOf 85) (by simp [DataW.weights, Tryz.underlying79])
      rw [hby] at this
      unfold reachBytes at this
      simp
      omega

set_option maxRecDepth 100000 in
theorem cals_of_trod {w : World} {H : Type} {enc : TypeId × Value → H} {base : Nat} {spare : Nat → Bool} {held : Bool} {fuel : Nat} {cs : List Value} {x : DataW H × List MemPlace}
    (hf : DataW.trod enc Tryz.prog w base spare held fuel 24 cs = some x) : ∃ u ns, cs = [u] ∧ Yl w u ns ∧ (Fits 24 x.1 → ns.length ≤ 8796093022208 ∧ ∀ k, (ns.getD k []).length ≤ 8796093022208) := by
  have hct : Tryz.prog.cellsOf 79 = 1 := by kernel_rfl
  have hby : Tryz.prog.bytesOf 79 = 24 := by kernel_rfl
  rcases DataW.trod_slice Tryz.underlying24 hf with ⟨hcs, -⟩ | ⟨a0, len0, cap0, elems, rest, n, _, hcs, hx, hb, hl, hm, hlen, hel, _, _⟩
  · exact ⟨_, [], hcs, Yl.nil w, fun _ => ⟨by simp, fun k => by simp⟩⟩
  · have hfit : Fits 24 x.1 → ∀ i (hi : i < elems.length), Fits 79 (elems[i]).1 := by
      intro hF i hi m hm'
      rw [hx] at hF
      refine hF m ?_
      have hmem : ∀ (l : List (DataW H)) (d : DataW H), d ∈ l → ∀ m ∈ d.weights Tryz.prog 79, m ∈ DataW.weightsAll Tryz.prog 79 l := by
        intro l
        induction l with
        | nil => intro d hd; cases hd
        | cons y l ih =>
          intro d hd m hm
          simp only [DataW.weightsAll, List.mem_append]
          rcases List.mem_cons.1 hd with rfl | hd
          · exact .inl hm
          · exact .inr (ih d hd m hm)
      simp only [DataW.weights, Tryz.underlying24, List.mem_cons, List.mem_append]
      exact .inr (.inl (hmem _ (elems[i]).1 (List.mem_map.2 ⟨_, List.getElem_mem hi, rfl⟩) m hm'))
    have each : ∀ i, i < len0 → ∃ (u : Value) (xs : List Slt), w.cell? (a0.add i) = some u ∧ Ss w u xs ∧ (Fits 24 x.1 → xs.length ≤ 8796093022208) := by
      intro i hi
      have h1 := hel i hi
      rw [hct, Nat.mul_one, List.getElem?_eq_getElem (by omega)] at h1
      obtain ⟨cs, hc, hy⟩ := Option.bind_eq_some_iff.1 h1
      obtain ⟨u, xs, rfl, hS, hB⟩ := slots_of_trod hy
      obtain ⟨_, _, h3⟩ := World.cells?_some hc
      have h30 := h3 0 (by omega)
      have e0 : (a0.add i).add 0 = a0.add i := by simp [Addr.add]
      rw [e0] at h30
      exact ⟨u, xs, h30, hS, fun hF => hB (hfit hF i (by omega))⟩
    let g : Nat → List Slt := fun i => if h : i < len0 then (each i h).choose_spec.choose else []
    have hg : ∀ i, i < len0 → ∃ u, w.cell? (a0.add i) = some u ∧ Ss w u (g i) ∧ (Fits 24 x.1 → (g i).length ≤ 8796093022208) := by
      intro i hi
      show ∃ u, w.cell? (a0.add i) = some u ∧ Ss w u (if h : i < len0 then (each i h).choose_spec.choose else []) ∧ (Fits 24 x.1 → (if h : i < len0 then (each i h).choose_spec.choose else []).length ≤ 8796093022208)
      rw [dif_pos hi]
      exact ⟨_, (each i hi).choose_spec.choose_spec⟩
    refine ⟨_, (List.range len0).map g, hcs, ⟨some a0, cap0, by simp, fun k hk => ?_⟩, fun hF => ⟨?_, fun k => ?_⟩⟩
    · have hk' : k < len0 := by simpa using hk
      obtain ⟨u, hc, hS, _⟩ := hg k hk'
      obtain ⟨b, off, sp⟩ := a0
      have hs : sp = none := by
        obtain ⟨u', hc', _⟩ := hg 0 (by omega)
        have h5 := spotS_none hc'
        simpa [Addr.add] using h5
      subst hs
      rw [addN] at hc
      have e1 : ((List.range len0).map g).getD k [] = g k := by simp [hk']
      rw [e1]
      exact ⟨b, off, u, rfl, blockS_lt hc, hc, hS⟩
    · rw [hx] at hF
      have := hF ((elems.length + rest.length) * Tryz.prog.bytesOf 79) (by simp [DataW.weights, Tryz.underlying24])
      rw [hby] at this
      unfold reachBytes at this
      simp
      omega
    · by_cases hk : k < len0
      · obtain ⟨u, _, _, h3⟩ := hg k hk
        have e1 : ((List.range len0).map g).getD k [] = g k := by simp [hk]
        rw [e1]
        exact h3 hF
      · simp [hk]

/-- Lists that a call may have been handed: how many, and how long. -/
structure Lids (cs : List (List Slt)) : Prop where
  many : cs.length ≤ 8796093022208
  long : ∀ k, (cs.getD k []).length ≤ 8796093022208

theorem list5 {α : Type} (l : List α) (h : l.length = 5) : ∃ a b c d e, l = [a, b, c, d, e] := by
  match l, h with
  | [a, b, c, d, e], _ => exact ⟨a, b, c, d, e, rfl⟩

set_option maxRecDepth 100000 in
theorem open_yard {w : World} {H : Type} {enc : TypeId × Value → H} {r : Reach} {b0 base : Nat} {spare : Nat → Bool} {held : Bool} {v : Value} {d : DataW H} {p : List MemPlace} {ts : List TypeId} {ds : List (DataW H)} {j : Nat}
    (hv : Value.okWide Tryz.prog w r b0 26 v) (h : DataW.Trod enc Tryz.prog w base spare held 26 v d p) (ht : ts[j]? = some 26) (hd : ds[j]? = some d) (hsz : (DataW.weightsEach Tryz.prog ts ds).all (· ≤ reachBytes) = true) :
    ∃ (a b c : Int) (n l : Value) (ns ls : List (List Slt)), v = Y5 a b c n l ∧ Yl w n ns ∧ Yl w l ls ∧ Lids ns ∧ Lids ls := by
  obtain ⟨f0, f1, f2, hu, t0, o0, t1, o1, t2, o2⟩ : ∃ f0 f1 f2, Tryz.prog.underlying 26 = some (.struct #[f0, f1, f2]) ∧ f0.type = 23 ∧ f0.offset = 0 ∧ f1.type = 24 ∧ f1.offset = 3 ∧ f2.type = 24 ∧ f2.offset = 4 := ⟨_, _, _, rfl, rfl, rfl, rfl, rfl, rfl, rfl⟩
  obtain ⟨cs, rfl, hsize, _⟩ : ∃ cs, v = .agg cs ∧ cs.size = Tryz.prog.cellsOf 26 ∧ Row.okWide Tryz.prog w r b0 26 cs := by
    simpa [Value.okWide, hu] using hv
  have hct : Tryz.prog.cellsOf 26 = 5 := by kernel_rfl
  have hc3 : Tryz.prog.cellsOf 23 = 3 := by kernel_rfl
  have hc1 : Tryz.prog.cellsOf 24 = 1 := by kernel_rfl
  have hci : Tryz.prog.cellsOf 3 = 1 := by kernel_rfl
  rw [hct] at hsize
  obtain ⟨l⟩ := cs
  obtain ⟨c0, c1, c2, c3, c4, rfl⟩ := list5 l hsize
  obtain ⟨fuel, hf⟩ := h
  obtain ⟨xs, n, _, hx, hl, hlen, hfs⟩ := DataW.trod_struct hu hf
  obtain ⟨y0, y1, y2, rfl⟩ := listS3 xs hlen
  have h0 := hfs 0 f0 rfl
  have h1 := hfs 1 f1 rfl
  have h2 := hfs 2 f2 rfl
  rw [t0, o0, hc3] at h0
  rw [t1, o1, hc1] at h1
  rw [t2, o2, hc1] at h2
  have h0 : DataW.trod enc Tryz.prog w base spare held n 23 [c0, c1, c2] = some y0 := h0
  have h1 : DataW.trod enc Tryz.prog w base spare held n 24 [c3] = some y1 := h1
  have h2 : DataW.trod enc Tryz.prog w base spare held n 24 [c4] = some y2 := h2
  obtain ⟨_, _, _, m, _, g0, g1, g2⟩ := trod_array3 Tryz.underlying23 hci h0
  obtain ⟨x0, e0, _, _⟩ := DataW.trod_int Tryz.underlying3 g0
  obtain ⟨x1, e1, _, _⟩ := DataW.trod_int Tryz.underlying3 g1
  obtain ⟨x2, e2, _, _⟩ := DataW.trod_int Tryz.underlying3 g2
  simp at e0 e1 e2
  subst e0 e1 e2
  obtain ⟨u1, ns, E1, hN, bN⟩ := cals_of_trod h1
  obtain ⟨u2, ls, E2, hL, bL⟩ := cals_of_trod h2
  obtain rfl := List.head_eq_of_cons_eq E1
  obtain rfl := List.head_eq_of_cons_eq E2
  have hW : ∀ m ∈ d.weights Tryz.prog 26, m ≤ reachBytes := fun m hm => by
    have := List.all_eq_true.1 hsz m (DataW.weights_mem_each ht hd m hm)
    simpa using this
  have hdd : d = .agg [y0.1, y1.1, y2.1] := congrArg Prod.fst hx
  rw [hdd] at hW
  have hfit : ∀ (i : Nat) (t : TypeId) (y : DataW H), [23, 24, 24][i]? = some t → [y0.1, y1.1, y2.1][i]? = some y → Fits t y := fun i t y hi hy m hm => hW m (by
    simp only [DataW.weights, hu]
    rw [show (#[f0, f1, f2] : Array Field).toList.map (·.type) = [23, 24, 24] by simp [t0, t1, t2]]
    exact DataW.weights_mem_each hi hy m hm)
  have F1 := bN (hfit 1 _ _ rfl rfl)
  have F2 := bL (hfit 2 _ _ rfl rfl)
  exact ⟨x0, x1, x2, c3, c4, ns, ls, rfl, hN, hL, ⟨F1.1, F1.2⟩, ⟨F2.1, F2.2⟩⟩

end Go.Proofs.YtldcagjnngkabaaGreatDoor

/-
  tidehallref09.Great: how many calendars, and slots.
-/
namespace Go.Proofs.YtldcagjnngkabaaGreatDoor
open Go Go.RowKit Go.Shelf

attribute [local go_sem] Oper.semAt_some ext_const

/-- The sum of the calendars' lengths, as an int has it. -/
def sumW (s : Int) (cs : List (List Slt)) : Nat → Int
  | 0 => s
  | k + 1 => wrap64 (sumW s cs k + ((cs.getD k []).length : Int))
def sumN (cs : List (List Slt)) : Nat → Nat
  | 0 => 0
  | k + 1 => sumN cs k + (cs.getD k []).length
theorem sumN_le {cs : List (List Slt)} {B : Nat} (h : ∀ k, (cs.getD k []).length ≤ B) : ∀ k, sumN cs k ≤ k * B
  | 0 => by simp [sumN]
  | k + 1 => by
    have := sumN_le h k
    have hk := h k
    rw [sumN, Nat.succ_mul]
    omega
theorem sumN_mono {cs : List (List Slt)} : ∀ {j k : Nat}, j < k → (cs.getD j []).length ≤ sumN cs k
  | j, 0, h => by omega
  | j, k + 1, h => by
    rw [sumN]
    by_cases e : j = k
    · subst e; omega
    · have := sumN_mono (cs := cs) (show j < k by omega); omega
theorem sumW_is {cs : List (List Slt)} {s : Int} (hs : 0 ≤ s) : ∀ k, s + sumN cs k ≤ 4611686018427387904 → sumW s cs k = s + sumN cs k
  | 0, _ => by simp [sumW, sumN]
  | k + 1, h => by
    rw [sumN] at h ⊢
    rw [sumW, sumW_is hs k (by omega), wrap_in _ (by omega)]
    omega
def totalY (ns ls : List (List Slt)) : Int := sumW (sumW 0 ns ns.length) ls ls.length
def greatB (ns ls : List (List Slt)) : Bool := decide (200 < (ns.length : Int)) || (decide (600 < (ls.length : Int)) || decide (10000 < totalY ns ls))
/-- Calendars that are not great. -/
structure Small (ns ls : List (List Slt)) : Prop where
  nodes : ns.length ≤ 200
  links : ls.length ≤ 600
  node : ∀ k, (ns.getD k []).length ≤ 10000
  link : ∀ k, (ls.getD k []).length ≤ 10000
theorem small_of {ns ls : List (List Slt)} (h1 : Lids ns) (h2 : Lids ls) (h : greatB ns ls = false) : Small ns ls := by
  unfold greatB at h
  rw [Bool.or_eq_false_iff, Bool.or_eq_false_iff] at h
  obtain ⟨a, b, c⟩ := h
  have a := of_decide_eq_false a
  have b := of_decide_eq_false b
  have c := of_decide_eq_false c
  have b1 := sumN_le h1.long ns.length
  have b2 := sumN_le h2.long ls.length
  have m1 : ns.length * 8796093022208 ≤ 200 * 8796093022208 := Nat.mul_le_mul_right _ (by omega)
  have m2 : ls.length * 8796093022208 ≤ 600 * 8796093022208 := Nat.mul_le_mul_right _ (by omega)
  have e1 : sumW 0 ns ns.length = (sumN ns ns.length : Int) := by rw [sumW_is (by omega) _ (by omega)]; omega
  have e2 : totalY ns ls = (sumN ns ns.length : Int) + sumN ls ls.length := by unfold totalY; rw [e1, sumW_is (by omega) _ (by omega)]
  rw [e2] at c
  refine ⟨by omega, by omega, fun k => ?_, fun k => ?_⟩
  · by_cases hk : k < ns.length
    · have := sumN_mono (cs := ns) hk; omega
    · simp [hk]
  · by_cases hk : k < ls.length
    · have := sumN_mono (cs := ls) hk; omega
    · simp [hk]

set_option maxRecDepth 100000 in
set_option maxHeartbeats 8000000 in
theorem great_calls {a b c : Int} {n l : Value} {ns ls : List (List Slt)} (w : World) (hN : Yl w n ns) (hL : Yl w l ls) (h1 : Lids ns) (h2 : Lids ls) : Calls Tryz.prog 15 #[Y5 a b c n l] w fun e W' => e = .returned (.bool (greatB ns ls)) ∧ Below w.heap.size w W' := by
  obtain ⟨W, hW, hB, hK⟩ := one_start w (K5 a b c n l) 26
  have HW : Hid (w.alloc (.cells (K5 a b c n l) 26) = W) := hW
  obtain ⟨an, cn, rfl, hN⟩ := hN.form
  obtain ⟨al, cl, rfl, hL⟩ := hL.form
  have HN : Hid (Yl W (.slice an ns.length cn) ns) := hN.later hB
  have HL : Hid (Yl W (.slice al ls.length cl) ls) := hL.later hB
  have hn := h1.many
  have hl := h2.many
  have HS1 : Hid (∀ k : Nat, sumW 0 ns (k + 1) = wrap64 (sumW 0 ns k + ((ns.getD k []).length : Int))) := fun k => rfl
  have HS2 : Hid (∀ k : Nat, sumW (sumW 0 ns ns.length) ls (k + 1) = wrap64 (sumW (sumW 0 ns ns.length) ls k + ((ls.getD k []).length : Int))) := fun k => rfl
  have HZ1 : Hid (sumW 0 ns 0 = 0) := rfl
  have HZ2 : Hid (sumW (sumW 0 ns ns.length) ls 0 = sumW 0 ns ns.length) := rfl
  have HG : Hid (greatB ns ls = (decide (200 < (ns.length : Int)) || (decide (600 < (ls.length : Int)) || decide (10000 < sumW (sumW 0 ns ns.length) ls ls.length)))) := rfl
  generalize greatB ns ls = ans at *
  generalize sumW (sumW 0 ns ns.length) ls = s2 at *
  generalize sumW 0 ns = s1 at *
  clear hW hN hL h1 h2
  obtain ⟨p0, p1, p2, p3, p4, hz⟩ := hK.five
  go_enter Tryz.func15, Tryz.ntmps15
  go_wp2
  rw [HW.out]
  go_loopw [3, 4] (fun s i wr => ∃ k : Nat, k ≤ ns.length ∧ i = .int .i64 k ∧ s = .int .i64 (s1 k) ∧ wr = W) (fun _ i _ => ns.length - (RowKit.intOf i).toNat)
  case atStart => exact ⟨0, by omega, rfl, by rw [HZ1.out], rfl⟩
  case round =>
    obtain ⟨k, hk, rfl, rfl, hwr⟩ := hrel
    subst hwr
    by_cases hlt : (k : Int) < (ns.length : Int)
    · have hk' : k < ns.length := by omega
      obtain ⟨g, off, bo, m, c', rfl, hg, hcc, hm, _⟩ := HN.out.at hk'
      have HE : Hid (s1 (k + 1) = wrap64 (s1 k + (m : Int))) := by show _ = _; rw [HS1.out, hm]
      clear hm
      go_wp2
      go_roundw
      case rel => exact ⟨k + 1, by omega, by go_num, by rw [HE.out], by trivial⟩
      case measure => simp [RowKit.intOf]; omega
    · obtain rfl : k = ns.length := by omega
      go_wp2
      go_loopw [3, 5] (fun s i wx => ∃ k : Nat, k ≤ ls.length ∧ i = .int .i64 k ∧ s = .int .i64 (s2 k) ∧ wx = wr) (fun _ i _ => ls.length - (RowKit.intOf i).toNat)
      case atStart => exact ⟨0, by omega, rfl, by rw [HZ2.out], rfl⟩
      case round =>
        obtain ⟨k, hk, rfl, rfl, hwx⟩ := hrel
        subst hwx
        by_cases hlt : (k : Int) < (ls.length : Int)
        · have hk' : k < ls.length := by omega
          obtain ⟨g, off, bo, m, c', rfl, hg, hcc, hm, _⟩ := HL.out.at hk'
          have HE : Hid (s2 (k + 1) = wrap64 (s2 k + (m : Int))) := by show _ = _; rw [HS2.out, hm]
          clear hm
          go_wp2
          go_roundw
          case rel => exact ⟨k + 1, by omega, by go_num, by rw [HE.out], by trivial⟩
          case measure => simp [RowKit.intOf]; omega
        · obtain rfl : k = ls.length := by omega
          have hA := HG.out
          clear HS1 HS2 HZ1 HZ2 HG
          generalize s2 ls.length = z at *
          generalize ns.length = nn at *
          generalize ls.length = ll at *
          by_cases g1 : 200 < (nn : Int)
          · rw [decide_eq_true g1, Bool.true_or] at hA
            subst hA
            go_wp2
            go_ret
            exact ⟨rfl, hB⟩
          · have g1 : decide (200 < (nn : Int)) = false := decide_eq_false g1
            rw [g1, Bool.false_or] at hA
            by_cases g2 : 600 < (ll : Int)
            · rw [decide_eq_true g2, Bool.true_or] at hA
              subst hA
              go_wp2
              go_ret
              exact ⟨rfl, hB⟩
            · have g2 : decide (600 < (ll : Int)) = false := decide_eq_false g2
              rw [g2, Bool.false_or] at hA
              subst hA
              go_wp2
              go_ret
              exact ⟨rfl, hB⟩

end Go.Proofs.YtldcagjnngkabaaGreatDoor

/-
  Plain arithmetic under the program's way of layer 10: parts of lists of calendars; sets of moments kept as the keys of a map; how many slots calendars that are not great have. No program is walked here.
-/
namespace Go.Proofs.YtldcagjnngkabaaGreatDoor
open Go Go.RowKit Go.Shelf Go.Maps

/-- A slot that may be. -/
abbrev SltM := { s : Slt // maySl s }

theorem flat_succ {cs : List (List Slt)} {k : Nat} (hk : k < cs.length) : (cs.take (k + 1)).flatten = (cs.take k).flatten ++ cs.getD k [] := by
  rw [List.take_succ_eq_append_getElem hk, List.flatten_append]
  simp [hk]
theorem flat_zero (cs : List (List Slt)) : (cs.take 0).flatten = [] := by simp
theorem flat_all (cs : List (List Slt)) : (cs.take cs.length).flatten = cs.flatten := by simp
theorem take_slot {c : List Slt} {k : Nat} (hk : k < c.length) : c.take (k + 1) = c.take k ++ [c.getD k (0, 0, 0)] := by
  rw [List.take_succ_eq_append_getElem hk]
  simp [hk]
theorem flat_le {cs : List (List Slt)} {k j : Nat} (hk : k < cs.length) (hj : j ≤ (cs.getD k []).length) : ((cs.take k).flatten ++ (cs.getD k []).take j).length ≤ cs.flatten.length := by
  have h1 : (cs.take k).flatten.length + (cs.getD k []).length ≤ cs.flatten.length := by
    have e : cs.flatten = (cs.take (k + 1)).flatten ++ (cs.drop (k + 1)).flatten := by rw [← List.flatten_append, List.take_append_drop]
    rw [e, List.length_append, flat_succ hk, List.length_append]
    omega
  rw [List.length_append, List.length_take]
  omega
theorem flat_lt {cs : List (List Slt)} {k j : Nat} (hk : k < cs.length) (hj : j < (cs.getD k []).length) : ((cs.take k).flatten ++ (cs.getD k []).take j).length < cs.flatten.length := by
  have := flat_le hk (j := j + 1) hj
  rw [take_slot hj, ← List.append_assoc, List.length_append] at this
  simp only [List.length_append, List.length_cons, List.length_nil] at *
  omega
theorem slot_mem {cs : List (List Slt)} {k j : Nat} (hm : maysC cs = true) (hj : j < (cs.getD k []).length) : maySl ((cs.getD k []).getD j (0, 0, 0)) := by
  refine (maysC_may hm k).1 _ ?_
  rw [List.getD_eq_getElem?_getD (l := cs.getD k []), List.getElem?_eq_getElem hj]
  exact List.getElem_mem hj

theorem sumN_flat (cs : List (List Slt)) : ∀ k, k ≤ cs.length → (cs.take k).flatten.length = sumN cs k
  | 0, _ => by simp [sumN]
  | k + 1, h => by
    rw [flat_succ (by omega), List.length_append, sumN_flat cs k (by omega), sumN]
/-- How many slots there are, where the calendars are not great. -/
theorem slots_small {ns ls : List (List Slt)} (h1 : Lids ns) (h2 : Lids ls) (h : greatB ns ls = false) : (slotsY ns ls).length ≤ 10000 := by
  unfold greatB at h
  rw [Bool.or_eq_false_iff, Bool.or_eq_false_iff] at h
  obtain ⟨a, b, c⟩ := h
  have a := of_decide_eq_false a
  have b := of_decide_eq_false b
  have c := of_decide_eq_false c
  have b1 := sumN_le h1.long ns.length
  have b2 := sumN_le h2.long ls.length
  have m1 : ns.length * 8796093022208 ≤ 200 * 8796093022208 := Nat.mul_le_mul_right _ (by omega)
  have m2 : ls.length * 8796093022208 ≤ 600 * 8796093022208 := Nat.mul_le_mul_right _ (by omega)
  have e1 : sumW 0 ns ns.length = (sumN ns ns.length : Int) := by rw [sumW_is (by omega) _ (by omega)]; omega
  have e2 : totalY ns ls = (sumN ns ns.length : Int) + sumN ls ls.length := by unfold totalY; rw [e1, sumW_is (by omega) _ (by omega)]
  rw [e2] at c
  have f1 := sumN_flat ns ns.length (Nat.le_refl _)
  have f2 := sumN_flat ls ls.length (Nat.le_refl _)
  rw [List.take_length] at f1 f2
  rw [slotsY, List.length_append, f1, f2]
  omega

/-- The keys of a map are just these numbers. -/
def KeysI (D : DataW Unit) (xs : List Int) : Prop := IsMap D ∧ ∀ x : Int, Maps.has D (.int .i64 x) = decide (x ∈ xs)
theorem keysI_none : KeysI (.map []) [] := ⟨isMap_empty, fun x => by simp [Maps.has]⟩
theorem keysI_put {D : DataW Unit} {xs : List Int} {y : Int} (h : KeysI D xs) (hk : WideAt.IsKeyLit (.int .i64 y)) (d : DataW Unit) : KeysI (D.put (.int .i64 y) d) (insI y xs) := by
  refine ⟨h.1.put _ _, fun x => ?_⟩
  by_cases e : x = y
  · subst e
    rw [has_put_same h.1 hk]
    exact (decide_eq_true (insI_mem.2 (.inl rfl))).symm
  · rw [has_put_other (fun k => e (by simpa using k)), h.2 x]
    congr 1
    rw [insI_mem]
    simp [e]
theorem gathW_yes {p : Slt → Bool} {sl : List Slt} {s : Slt} (hp : p s = true) : gathT p [] (sl ++ [s]) = insI s.2.1 (gathT p [] sl) := by rw [gathT_snoc, if_pos hp]
theorem gathW_no {p : Slt → Bool} {sl : List Slt} {s : Slt} (hp : p s = false) : gathT p [] (sl ++ [s]) = gathT p [] sl := by rw [gathT_snoc, if_neg (by simp [hp])]
theorem up_nodup {l : List Int} (h : UpI l) : l.Nodup := h.imp fun hab e => by omega
theorem up_sort {l l' : List Int} (h : l.Perm l') (h' : UpI l') : (l.mergeSort fun x y => decide (x ≤ y)) = l' := by
  have tr : ∀ a b c : Int, decide (a ≤ b) = true → decide (b ≤ c) = true → decide (a ≤ c) = true := fun a b c h1 h2 => by simp only [decide_eq_true_eq] at *; omega
  have to : ∀ a b : Int, (decide (a ≤ b) || decide (b ≤ a)) = true := fun a b => by simp only [Bool.or_eq_true, decide_eq_true_eq]; omega
  refine List.Perm.eq_of_pairwise (le := fun a b : Int => decide (a ≤ b) = true) (fun a b _ _ h1 h2 => ?_) (List.pairwise_mergeSort tr to l) (h'.imp fun hab => ?_) ((List.mergeSort_perm l _).trans h)
  · simp only [decide_eq_true_eq] at h1 h2; omega
  · simp only [decide_eq_true_eq]; omega
/-- A map's keys, in whatever order they came, sorted. -/
theorem keysI_sort {P : Program} {k : TypeId} {R : Value → Option (DataW Unit × List MemPlace)} {w : World} {b n : Nat} {D : DataW Unit} {xs ss : List Int} (hown : w.ownsMap P k R b n D) (hk : P.underlying k = some (.int .i64))
    (hK : KeysI D xs) (hx : UpI xs) (hs : ss.Perm (intKeys D)) : (ss.mergeSort fun x y => decide (x ≤ y)) = xs := by
  obtain ⟨es, hD, hpw, _⟩ := hown.entries (int_keyed hk)
  obtain ⟨es', hD', hko⟩ := hown.keysOf
  obtain rfl : es = es' := by rw [hD] at hD'; simpa using hD'
  subst hD
  refine up_sort (hs.trans (perm_intKeys hpw (fun p hp => by obtain ⟨v, hv⟩ := hko p hp; obtain ⟨x, _, hx, _⟩ := Maps.keyOf_i64 hk hv; exact ⟨x, hx⟩) (up_nodup hx) fun x => ?_).symm) hx
  rw [hK.2 x]
  simp
/-- From a moment on, by the program's way: all that come free behind it, and it. -/
theorem times_keys (from' : Int) (sl : List Slt) : insI from' (gathT (timeP from') [] sl) = timesT from' sl := by
  refine up_ext (insI_up (gathT_up List.Pairwise.nil)) (timesT_up from' sl) fun x => ?_
  rw [insI_mem]
  unfold timesT
  rw [gathT_mem, gathT_mem]
  simp
theorem times_len (from' : Int) (sl : List Slt) : (timesT from' sl).length ≤ sl.length + 1 := by
  have := gathT_len (timeP from') sl [from']
  unfold timesT
  simp only [List.length_cons, List.length_nil] at this
  omega
theorem ends_len (o : Int) (sl : List Slt) : (endsT o sl).length ≤ sl.length := by
  have := gathT_len (fun s => decide (s.2.2 = o)) sl []
  unfold endsT
  simp only [List.length_nil] at this
  omega
theorem maySl_wf {s : Slt} (h : maySl s) : (Lit.int .i64 s.2.1).wf = true := by
  obtain ⟨⟨h0, h1, h2⟩, _⟩ := h
  exact WalkArith.wf_i64 (by omega)

/-- What Times, Ends and Last answer. -/
def timeE (a b c : Int) (ns ls : List (List Slt)) (from' : Int) : Int := if mayYB a b c ns ls then (if 0 ≤ from' ∧ from' < 1099511627776 then 0 else 2) else 8
def timeV (a b c : Int) (ns ls : List (List Slt)) (from' : Int) : List Int := if timeE a b c ns ls from' = 0 then timesT from' (slotsY ns ls) else []
def endV (a b c : Int) (ns ls : List (List Slt)) (o : Int) : List Int := if errY a b c ns ls = 0 then endsT o (slotsY ns ls) else []
def lastV (a b c : Int) (ns ls : List (List Slt)) : Int := if errY a b c ns ls = 0 then lastT (slotsY ns ls) else 0
theorem timeE_yes {a b c : Int} {ns ls : List (List Slt)} {from' : Int} (h : mayY a b c ns ls) (hf : 0 ≤ from' ∧ from' < 1099511627776) : timeE a b c ns ls from' = 0 := by
  unfold timeE; rw [if_pos (mayYB_iff.2 h), if_pos hf]
theorem timeE_arg {a b c : Int} {ns ls : List (List Slt)} {from' : Int} (h : mayY a b c ns ls) (hf : ¬ (0 ≤ from' ∧ from' < 1099511627776)) : timeE a b c ns ls from' = 2 := by
  unfold timeE; rw [if_pos (mayYB_iff.2 h), if_neg hf]
theorem timeE_bad {a b c : Int} {ns ls : List (List Slt)} {from' : Int} (h : ¬ mayY a b c ns ls) : timeE a b c ns ls from' = 8 := by
  unfold timeE; rw [mayYB_no h]; rfl
theorem timeE_zero {a b c : Int} {ns ls : List (List Slt)} {from' : Int} (h : timeE a b c ns ls from' = 0) : mayY a b c ns ls ∧ 0 ≤ from' ∧ from' < 1099511627776 := by
  by_cases h1 : mayY a b c ns ls
  · by_cases h2 : 0 ≤ from' ∧ from' < 1099511627776
    · exact ⟨h1, h2⟩
    · rw [timeE_arg h1 h2] at h; cases h
  · rw [timeE_bad h1] at h; cases h
theorem errY_zero {a b c : Int} {ns ls : List (List Slt)} (h : errY a b c ns ls = 0) : mayY a b c ns ls := by
  by_cases h1 : mayY a b c ns ls
  · exact h1
  · rw [errY_no h1] at h; cases h

end Go.Proofs.YtldcagjnngkabaaGreatDoor

/-
  when.slots hands out the slots of all calendars, one behind the other, and stops where a round says so.
-/
namespace Go.Proofs.YtldcagjnngkabaaGreatDoor
open Go Go.RowKit Go.Shelf

theorem ixY0 (x y : Value) (w : World) : (Instr.index 187 (.agg #[x, y]) (.int .i64 0)).run Tryz.prog w = .ok x w := by kernel_rfl
theorem ixY1 (x y : Value) (w : World) : (Instr.index 187 (.agg #[x, y]) (.int .i64 1)).run Tryz.prog w = .ok y w := by kernel_rfl

attribute [local go_sem] Oper.semAt_some ext_const

theorem abide_belowS {J : List SltM → World → Prop} {B : Nat} (hJ : AbidesFrom B J) {pre : List SltM} {W W' : World} (h : J pre W) (hb : Below W.heap.size W W') : J pre W' :=
  hJ pre W W' none h ⟨hb.os, hb.tape, hb.output, hb.size, fun k hk _ => hb.block k hk⟩ (fun r e => by cases e)

theorem slots_calls (a b c : Int) (n l : Value) (w : World) :
    Calls Tryz.prog 106 #[Y5 a b c n l] w fun e w' => e = .returned (.func (.func 133) #[] #[.pointer (some ⟨w.heap.size, 0, none⟩)]) ∧ w' = w.alloc (.cells (K5 a b c n l) 26) := by
  go_enter Tryz.func106, Tryz.ntmps106
  go_wp2
  go_ret
  exact ⟨rfl, rfl⟩

/-- The two lists of calendars, and what was handed out ahead of each. -/
def partY (ns ls : List (List Slt)) (i : Nat) : List (List Slt) := if i = 0 then ns else ls
def headY (ns ls : List (List Slt)) (i : Nat) : List Slt := if i = 0 then [] else if i = 1 then ns.flatten else ns.flatten ++ ls.flatten
def partV (x y : Value) (i : Nat) : Value := if i = 0 then x else y
theorem headY_succ (ns ls : List (List Slt)) {i : Nat} (h : i < 2) : headY ns ls (i + 1) = headY ns ls i ++ (partY ns ls i).flatten := by
  match i, h with
  | 0, _ => rfl
  | 1, _ => rfl
theorem headY_le (ns ls : List (List Slt)) {i : Nat} (h : i < 2) : (headY ns ls i).length + (partY ns ls i).flatten.length ≤ (slotsY ns ls).length := by
  match i, h with
  | 0, _ => simp [headY, partY, slotsY]
  | 1, _ => simp [headY, partY, slotsY]
theorem ixY {x y : Value} {i : Nat} (h : i < 2) (w : World) : (Instr.index 187 (.agg #[x, y]) (.int .i64 (i : Int))).run Tryz.prog w = .ok (partV x y i) w := by
  match i, h with
  | 0, _ => exact ixY0 x y w
  | 1, _ => exact ixY1 x y w

set_option maxRecDepth 100000 in
set_option maxHeartbeats 4000000 in
theorem slots1_in {a b c : Int} {vn vl : Value} {ns ls : List (List Slt)} (hn : maysC ns = true) (hl : maysC ls = true) (w0 : World) (hN : Yl w0 vn ns) (hL : Yl w0 vl ls) (n : Nat) (h1n : 1 ≤ n) (hx1 : ns.length ≤ 100000) (hx2 : ls.length ≤ 100000) (hx3 : ∀ k, (ns.getD k []).length ≤ 100000) (hx4 : ∀ k, (ls.getD k []).length ≤ 100000)
    (l B : Nat) (J Jx : List SltM → World → Prop) (W : World) (hT0 : Below w0.heap.size w0 W) (bB : Blk W B 26 (K5 a b c vn vl)) (hJ : AbidesFrom W.heap.size J)
    (hY : ∀ pre (x : SltM) W1, J pre W1 → pre.length < (slotsY ns ls).length → YieldAt Fence.wide (n - 1) Tryz.prog l #[V3 x.1.1 x.1.2.1 x.1.2.2] W1 fun e W' =>
      (e = .returned (.bool true) ∧ J (pre ++ [x]) W' ∧ Below w0.heap.size W1 W') ∨ (e = .returned (.bool false) ∧ Jx (pre ++ [x]) W')) (h0 : J [] W) :
    CallsIn Fence.wide n Tryz.prog 133 #[.func (.yield l) #[] #[], .pointer (some ⟨B, 0, none⟩)] W fun e W' =>
      (∃ v, e = .returned v) ∧ ((∃ xs : List SltM, xs.map (·.1) = slotsY ns ls ∧ J xs W') ∨ (∃ pre, Jx pre W')) := by
  have HY : Hid (∀ pre (x : SltM) W1, J pre W1 → pre.length < (slotsY ns ls).length → YieldAt Fence.wide (n - 1) Tryz.prog l #[V3 x.1.1 x.1.2.1 x.1.2.2] W1 fun e W' =>
      (e = .returned (.bool true) ∧ J (pre ++ [x]) W' ∧ Below w0.heap.size W1 W') ∨ (e = .returned (.bool false) ∧ Jx (pre ++ [x]) W')) := hY
  have HJ : Hid (AbidesFrom W.heap.size J) := hJ
  have HX : Hid (∀ (i : Nat), i < 2 → ∀ w, (Instr.index 187 (.agg #[vn, vl]) (.int .i64 (i : Int))).run Tryz.prog w = .ok (partV vn vl i) w) := fun i h w => ixY h w
  have HP : Hid (∀ (i : Nat), i < 2 → Yl w0 (partV vn vl i) (partY ns ls i) ∧ maysC (partY ns ls i) = true ∧ (partY ns ls i).length ≤ 100000 ∧ ∀ k, ((partY ns ls i).getD k []).length ≤ 100000) := fun i h => by
    match i, h with
    | 0, _ => exact ⟨hN, hn, hx1, hx3⟩
    | 1, _ => exact ⟨hL, hl, hx2, hx4⟩
  have HS : Hid (∀ i : Nat, i < 2 → headY ns ls (i + 1) = headY ns ls i ++ (partY ns ls i).flatten) := fun i h => headY_succ ns ls h
  have HLe : Hid (∀ i : Nat, i < 2 → (headY ns ls i).length + (partY ns ls i).flatten.length ≤ (slotsY ns ls).length) := fun i h => headY_le ns ls h
  have HZ : Hid (headY ns ls 0 = [] ∧ headY ns ls 2 = slotsY ns ls) := ⟨rfl, rfl⟩
  obtain ⟨an, cn, rfl, _⟩ := hN.form
  obtain ⟨al, cl, rfl, _⟩ := hL.form
  obtain ⟨p0, p1, p2, p3, p4, hz⟩ := bB.five
  clear hY hJ hn hl hN hL hx1 hx2 hx3 hx4
  generalize headY ns ls = hd at *
  generalize slotsY ns ls = tot at *
  generalize partY ns ls = pt at *
  refine callsIn_of_wp Tryz.func133 rfl trivial ?_ rfl
  simp only [Tryz.ntmps133, List.size_toArray, List.length_cons, List.length_nil, Nat.reduceAdd, Nat.reduceSub, Array.replicate_succ, Array.replicate_zero, List.push_toArray, List.append_toArray, List.nil_append, List.cons_append]
  generalize ns.length = n1 at *
  generalize ls.length = n2 at *
  gi_wp2
  gi_loopw [14] (fun i wr => ∃ (j : Nat) (pre : List SltM), j ≤ 2 ∧ i = .int .i64 j ∧ pre.map (·.1) = hd j ∧ J pre wr ∧ Below w0.heap.size w0 wr) (fun i _ => 2 - (RowKit.intOf i).toNat)
  case atStart => exact ⟨0, [], by omega, rfl, HZ.out.1.symm, h0, hT0⟩
  case round =>
    obtain ⟨j, pre, hj, rfl, hpre, hJp, hT⟩ := hrel
    by_cases hlt : (j : Int) < 2
    · have hj2 : j < 2 := by omega
      have hix := HX.out j hj2
      have hS := HS.out j hj2
      have hLe := HLe.out j hj2
      obtain ⟨hY0, hm, hlen, hlens⟩ := HP.out j hj2
      have HSj : Hid (hd (j + 1) = hd j ++ (pt j).flatten) := hS
      have HPj : Hid (pre.map (·.1) = hd j) := hpre
      have HLj : Hid ((hd j).length + (pt j).flatten.length ≤ tot.length) := hLe
      have HMj : Hid (maysC (pt j) = true) := hm
      have HYj : Hid (Yl w0 (partV (.slice an n1 cn) (.slice al n2 cl) j) (pt j)) := hY0
      have HKj : Hid (∀ k, ((pt j).getD k []).length ≤ 100000) := hlens
      clear hS hLe hm hY0 hlens hpre
      generalize partV (.slice an n1 cn) (.slice al n2 cl) j = v at *
      generalize pt j = cs at *
      generalize hd j = hd0 at *
      obtain ⟨ao, cap, rfl, hYf⟩ := HYj.out.form
      clear HYj
      have HYj : Hid (Yl w0 (.slice ao cs.length cap) cs) := hYf
      clear hYf
      gi_wp2
      gi_loopw [19] (fun i wr2 => ∃ (m : Nat) (pre2 : List SltM), m ≤ cs.length ∧ i = .int .i64 m ∧ pre2.map (·.1) = hd0 ++ (cs.take m).flatten ∧ J pre2 wr2 ∧ Below w0.heap.size w0 wr2) (fun i _ => cs.length - (RowKit.intOf i).toNat)
      case atStart => exact ⟨0, pre, by omega, rfl, by rw [HPj.out]; simp, hJp, hT⟩
      case round =>
        rename World => wr2
        obtain ⟨m, pre2, hm, rfl, hpre2, hJp2, hT2⟩ := hrel
        by_cases hltm : (m : Int) < (cs.length : Int)
        · have hm2 : m < cs.length := by omega
          obtain ⟨g, off, bo, mm, cp, rfl, hg, hcc, hemm, hs⟩ := HYj.out.at hm2
          have hc2 : wr2.cell? ⟨g, off + m, none⟩ = some (.slice bo mm cp) := (hT2.cell (p := ⟨g, off + m, none⟩) hg).trans hcc
          have HF : Hid ((cs.take (m + 1)).flatten = (cs.take m).flatten ++ cs.getD m []) := flat_succ hm2
          have HM3 : Hid (∀ k, k < (cs.getD m []).length → maySl ((cs.getD m []).getD k (0, 0, 0))) := fun k hk => slot_mem HMj.out hk
          have HLt : Hid (∀ k, k < (cs.getD m []).length → ((cs.take m).flatten ++ (cs.getD m []).take k).length < cs.flatten.length) := fun k hk => flat_lt hm2 hk
          have hmm : mm ≤ 100000 := by rw [hemm]; exact HKj.out m
          have HP2 : Hid (pre2.map (·.1) = hd0 ++ (cs.take m).flatten) := hpre2
          have HC : Hid (Ss w0 (.slice bo mm cp) (cs.getD m [])) := hs
          have HE : Hid (mm = (cs.getD m []).length) := hemm
          clear hs hcc hpre2 hemm
          generalize cs.getD m [] = xs at *
          gi_wp2
          gi_loopw [25] (fun i wr3 => ∃ (k : Nat) (pre3 : List SltM), k ≤ mm ∧ i = .int .i64 k ∧ pre3.map (·.1) = hd0 ++ ((cs.take m).flatten ++ xs.take k) ∧ J pre3 wr3 ∧ Below w0.heap.size w0 wr3) (fun i _ => mm - (RowKit.intOf i).toNat)
          case atStart => exact ⟨0, pre2, by omega, rfl, by rw [HP2.out]; simp, hJp2, hT2⟩
          case round =>
            rename World => wr3
            obtain ⟨k, pre3, hk, rfl, hpre3, hJp3, hT3⟩ := hrel
            by_cases hltk : (k : Int) < (mm : Int)
            · have hk2 : k < xs.length := by have := HE.out; omega
              obtain ⟨g2, off2, f, t, o, rfl, hgd, ha⟩ := HC.out.at hk2
              obtain ⟨hg2, a0, a1, a2⟩ := ha.later hT3
              have hms : maySl (f, t, o) := hgd ▸ HM3.out k hk2
              have HT : Hid (xs.take (k + 1) = xs.take k ++ [(f, t, o)]) := by show _ = _; rw [take_slot hk2, hgd]
              have HN3 : Hid (pre3.length < tot.length) := by
                have e1 := congrArg List.length hpre3
                rw [List.length_map, List.length_append] at e1
                have e2 := HLt.out k hk2
                have e3 := HLj.out
                show _ < _
                omega
              have HP3 : Hid (pre3.map (·.1) = hd0 ++ ((cs.take m).flatten ++ xs.take k)) := hpre3
              have hBa : Below wr3.heap.size wr3 (wr3.alloc (.cells (C3 f t o) 85)) := (Below.refl _ wr3).alloc (Nat.le_refl _) _
              have hJa := abide_belowS HJ.out hJp3 hBa
              obtain ⟨x, hxv⟩ : ∃ x : SltM, x.1 = (f, t, o) := ⟨⟨_, hms⟩, rfl⟩
              have hYx := HY.out pre3 x _ hJa HN3.out
              rw [hxv] at hYx
              obtain ⟨f1, t1, as1, bo1, hy1, hR1⟩ := hYx
              have HXv : Hid (x.1 = (f, t, o)) := hxv
              clear hgd hpre3 hms hxv
              gi_wp2
              refine hR1.mono ?_
              rintro e W3 (⟨rfl, hJ3, hk3⟩ | ⟨rfl, hJx3⟩)
              · gi_wp2
                go_roundw
                case rel => exact ⟨k + 1, pre3 ++ [x], by omega, by go_num, by rw [List.map_append, HP3.out, List.map_singleton, HXv.out, HT.out]; simp, hJ3, hT3.trans ((hBa.mono hT3.size).trans hk3)⟩
                case measure => simp [RowKit.intOf]; omega
              · gi_wp2
                refine bodyPost_ret (results_none rfl _ _ _) rfl ?_
                exact ⟨⟨_, rfl⟩, .inr ⟨_, hJx3⟩⟩
            · obtain rfl : k = mm := by omega
              have HP3 : Hid (pre3.map (·.1) = hd0 ++ (cs.take (m + 1)).flatten) := by
                show _ = _
                rw [hpre3, HF.out, HE.out, List.take_length]
              clear hpre3
              gi_wp2
              go_roundw
              case rel => exact ⟨m + 1, pre3, by omega, by go_num, HP3.out, hJp3, hT3⟩
              case measure => simp [RowKit.intOf]; omega
        · obtain rfl : m = cs.length := by omega
          have HP2 : Hid (pre2.map (·.1) = hd (j + 1)) := by
            show _ = _
            rw [hpre2, HSj.out, List.take_length]
          clear hpre2
          gi_wp2
          go_roundw
          case rel => exact ⟨j + 1, pre2, by omega, by go_num, HP2.out, hJp2, hT2⟩
          case measure => simp [RowKit.intOf]; omega
    · obtain rfl : j = 2 := by omega
      have HP1 : Hid (pre.map (·.1) = tot) := hpre.trans HZ.out.2
      clear hpre
      gi_wp2
      go_end0
      exact ⟨⟨_, rfl⟩, .inl ⟨pre, HP1.out, hJp⟩⟩

/-- What when.slots hands back, as a range over it asks. -/
theorem slots_stops {a b c : Int} {vn vl : Value} {ns ls : List (List Slt)} (hm : mayY a b c ns ls) (w0 w : World) (hN : Yl w0 vn ns) (hL : Yl w0 vl ls) (n : Nat) (h1n : 1 ≤ n) (B : Nat) (hT : Below w0.heap.size w0 w) (hB : Blk w B 26 (K5 a b c vn vl)) :
    SeqStopsK Fence.wide n Tryz.prog 133 #[.pointer (some ⟨B, 0, none⟩)] (fun x : SltM => #[V3 x.1.1 x.1.2.1 x.1.2.2]) (Below w0.heap.size) (fun xs => xs.map (·.1) = slotsY ns ls) (fun _ => True) (slotsY ns ls).length w := fun l J Jx W hW hJ _ hY h0 => by
  have hbd := hm.bd
  have hmn := hm.2.2.2.1
  have hml := hm.2.2.2.2
  refine (slots1_in hmn hml w0 hN hL n h1n (by omega) (by omega) (fun k => ?_) (fun k => ?_) l B J Jx W (hT.trans (hW.mono hT.size)) (hB.later hW) hJ hY h0).mono ?_
  · have := (maysC_may hmn k).2.2; omega
  · have := (maysC_may hml k).2.2; omega
  · rintro e W' ⟨hv, h | ⟨pre, h⟩⟩
    · exact ⟨hv, .inl h⟩
    · exact ⟨hv, .inr ⟨pre, trivial, h⟩⟩

end Go.Proofs.YtldcagjnngkabaaGreatDoor

/-
  when.rising: a map's keys, in rising order, in new memory: by the library's contracts of maps.Keys and slices.Sorted.
-/
namespace Go.Proofs.YtldcagjnngkabaaGreatDoor
open Go Go.RowKit Go.Shelf Go.Maps Go.Sort

shelf_lay_g SlLaysZI.n7 Ggz 7 at Tryz 108 as keysW
shelf_lay_g SlLaysZI.n6 Ggz 6 at Tryz 107 as sortedW
shelf_lay_g SlLaysM.n5 Slgm 5 at Tryz 135 as sortsW

/-- slices.Sort's two contracts at this program. -/
theorem sorts_in (m : Nat) : AnyZI.SortsIn Tryz.prog sortedW_ren Fence.wide m :=
  ⟨fun blk off cap ss W hH hblk hsz => callsIn_wide.2 (AnyM.slices_Sort_int sortsW blk off cap ss W hH hblk hsz),
   fun p cap W => callsIn_wide.2 (AnyM.slices_Sort_int_none sortsW p cap W)⟩

/-- What a map from moments on owns. -/
abbrev Mom (w : World) (g k : Nat) (D : DataW Unit) : Prop := w.ownsMap Tryz.prog 3 (unitElem (H := Unit)) g k D

set_option maxRecDepth 100000 in
set_option maxHeartbeats 4000000 in
theorem risingM_calls {g k : Nat} {D : DataW Unit} {xs : List Int} (w : World) (hown : Mom w g k D) (hk : k ≤ 1000000) (hK : KeysI D xs) (hx : UpI xs) :
    Calls Tryz.prog 65 #[.map (some g)] w fun e W' => ∃ v, e = .returned v ∧ Lst W' w.heap.size v xs ∧ Below w.heap.size w W' := by
  refine (callsIn_wide (n := 6)).1 ?_
  have hbl := hown.lt
  have hsz := hown.size_le
  have hseq : SeqGives Fence.wide 2 Tryz.prog 136 #[.pointer (some ⟨w.heap.size, 0, none⟩)] encZ (fun ss => ss.Perm (intKeys D)) (Maps.size D) (w.alloc (.cells #[.map (some g)] 114)) :=
    AnyZI.keys_gives (ρ := keysW_ren) { keysW with } Fence.wide _ trivial rfl (by omega) w.heap.size g k D _ (by simp) (by simp) (by
      obtain ⟨es, clock, hb, Ft, hs, hD⟩ := hown
      exact ⟨es, clock, (Below.heap_alloc _ _ g hbl).trans hb, Ft, hs, hD⟩)
  have cK : ∀ mb W, CallsIn Fence.wide 5 Tryz.prog 108 #[.map mb] W fun e w' => e = .returned (.func (.func 136) #[] #[.pointer (some ⟨W.heap.size, 0, none⟩)]) ∧ w' = W.alloc (.cells #[.map mb] 114) := fun mb W => AnyZI.keys_in keysW Fence.wide 5 trivial rfl mb W
  have cS := AnyZI.sorted_in sortedW Fence.wide 5 trivial trivial trivial trivial rfl (by omega) (sorts_in _) (enters_of Tryz.func135 (by kernel_rfl) rfl) 136 #[.pointer (some ⟨w.heap.size, 0, none⟩)] trivial (enters_of Tryz.func136 (by kernel_rfl) rfl) _ _ (by unfold maxLen; omega) (by omega) _ hseq
  change CallsIn _ _ Tryz.prog 107 _ _ _ at cS
  have hfK : Fence.wide.fn 108 := trivial
  have hfS : Fence.wide.fn 107 := trivial
  have HO : Hid (Mom w g k D) := hown
  have HF : Hid (∀ ss : List Int, ss.Perm (intKeys D) → (ss.mergeSort fun x y => decide (x ≤ y)) = xs) := fun ss h => keysI_sort hown Tryz.underlying3 hK hx h
  clear hown hK hx hseq hsz
  refine callsIn_of_wp Tryz.func65 rfl trivial ?_ rfl
  simp only [Tryz.ntmps65, List.size_toArray, List.length_cons, List.length_nil, Nat.reduceAdd, Nat.reduceSub, Array.replicate_succ, Array.replicate_zero, List.push_toArray, List.append_toArray, List.nil_append, List.cons_append]
  gi_wp2_with (first
    | (gi_at_call 108; refine (cK _ _).mono ?_; rintro e w' ⟨rfl, rfl⟩)
    | (gi_at_call 107; refine cS.mono ?_; rintro e w' ⟨v, ss, rfl, hS, hrow, hnil, hb⟩))
  go_ret
  refine ⟨v, rfl, ?_, ((Below.refl _ w).alloc (Nat.le_refl _) _).trans (hb.mono (by simp))⟩
  have hlen : (ss.mergeSort fun x y => decide (x ≤ y)).length = ss.length := List.length_mergeSort _
  have := ownsRow_base_a hrow (base' := w.heap.size) (by simp)
  rw [← hlen, HF.out ss hS] at this
  exact this

end Go.Proofs.YtldcagjnngkabaaGreatDoor

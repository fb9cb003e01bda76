/-
  A set among the arguments: as it came in, and a copy of it.
-/
import Derived.Test.YtbedhpooeabehaaDoorPart6
import Derived.Laws.AppendOwn
import Derived.Laws.AppendOwnNone
import Derived.Test.YtbedhpooeabehaaDoorPart18
import Derived.Test.YtbedhpooeabehaaDoorPart1
import Derived.Test.YtbedhpooeabehaaDoorRows
import Derived.ProofKit
import Derived.OpenShut
import Derived.ChangeOld
import Derived.Below
import Derived.Laws.IdiomArrays
import Derived.ChangeSlices
import Derived.LaidMore
import Derived.Stop.Joined
import Derived.Lib.LaidTab
import Derived.SevenTiedAt
namespace Go.Proofs.YtbedhpooeabehaaDoor
open Go Go.RowKit Go.Shelf

/-- A row of words that came in. -/
def ArgW (W : World) (v : Value) (ws : List Nat) : Prop := Wds W v ws ∧ (v = .slice none 0 0 ∨ ∃ ad cap, v = .slice (some ad) ws.length cap)
def ArgI (W : World) (v : Value) (xs : List Int) : Prop := Its W v xs ∧ (v = .slice none 0 0 ∨ ∃ ad cap, v = .slice (some ad) xs.length cap)

theorem owns_wds {W : World} {base : Nat} {v : Value} {ws : List Nat} (hw : ∀ x ∈ ws, x < 18446744073709551616) (h : W.ownsRow base 34 1 v ws.length (ws.map U)) : Wds W v ws := by
  obtain ⟨h1, h2⟩ := h
  refine ⟨hw, ?_⟩
  rcases h2 with ⟨rfl, hn⟩ | ⟨g, cap, cur, rfl, hg, hh, hc, hc2, hs, ht⟩
  · have : ws = [] := List.length_eq_zero_iff.1 hn
    subst this
    exact Sl.nil W
  · refine ⟨_, cap, by simp, fun k hk => ⟨g, 0, rfl, (Array.getElem?_eq_some_iff.1 hh).1, ?_⟩⟩
    have hb : Blk W g 34 cur := hh
    rw [Nat.zero_add, hb.cell k]
    have := congrArg (fun l => l[k]?) ht
    simp only [Nat.mul_one] at this
    rw [List.length_map] at hk
    rw [List.getElem?_take_of_lt hk, Array.getElem?_toList] at this
    exact this

/-- 'own = append(own, s...)', own nil. -/
theorem wpList_copy {ops : Array Oper} {rest : List Oper} {o : Oper} {a : Act} {Q : Exit → Act → World → Prop} {W : World} {v : Value} {ws : List Nat} (hgd : o.guard = none) (s x : Operand)
    (ho : o.op = .call { callee := .builtin .append, args := #[s, x], argTypes := #[36, 36] }) (hs : a.eval s = .slice none 0 0) (hx : a.eval x = v)
    (hA : ArgW W v ws) (hl : ws.length ≤ 1000)
    (h : ∀ v' w', Wds w' v' ws → Below W.heap.size W w' → wpList Tryd.prog ops Q rest (a.put o.dst v') w') : wpList Tryd.prog ops Q (o :: rest) a W := by
  obtain ⟨i0, hi, hz0, hz1, hz2⟩ := info_parts info_u64
  obtain ⟨hW, rfl | ⟨ad, cap, rfl⟩⟩ := hA
  · have e : ws = [] := by
      obtain ⟨ao, c, e, _⟩ := hW.view
      simp only [Value.slice.injEq] at e
      exact List.length_eq_zero_iff.1 e.2.1.symm
    subst e
    exact wpList_append_own_none hgd s x 36 ho W.heap.size 34 i0 1 Tryd.underlying36 hi (.slice none 0 0) 0 [] hs (World.ownsRow_nil _ _ _ _) hx (h _ _ (Wds.nil W) (Below.refl _ _))
  · refine wpList_append_own (w := W) hgd s x 36 ho W.heap.size 34 i0 (.int .u64 0) 1 8 Tryd.underlying36 hi hz0 hz1 hz2 rfl (by decide) (.slice none 0 0) 0 [] hs (World.ownsRow_nil _ _ _ _) ad ws.length cap (ws.map U) hx (by simp) ?_ ?_ ?_ ?_ ?_ ?_
    · intro j u hj
      obtain ⟨ao, c, e, hv⟩ := hW.view
      simp only [Value.slice.injEq] at e
      obtain ⟨rfl, -, -⟩ := e
      have hjl : j < ws.length := by
        have := (List.getElem?_eq_some_iff.1 hj).1
        simpa using this
      obtain ⟨g, off, e, hg, hc⟩ := hv j hjl
      simp only [Option.some.injEq] at e
      subst e
      have : (⟨g, off, none⟩ : Addr).add j = ⟨g, off + j, none⟩ := by
        unfold Addr.add
        split
        · rename_i h0; subst h0; rfl
        · rfl
      rw [this, hc, ← hj]
      simp [hjl]
    · intro u hu
      obtain ⟨y, _, rfl⟩ := List.mem_map.1 hu
      rfl
    · unfold maxLen; omega
    · omega
    · omega
    · intro v' w1 hown' hgrow _
      refine h v' w1 (owns_wds hW.1 (by simpa using hown')) ?_
      exact (Below.refl _ W).grown hgrow (Nat.le_refl _) (fun k hk => by cases hk)

end Go.Proofs.YtbedhpooeabehaaDoor

/-
  The statement ScoreBothWays, walked. (Written by tools/gen/law_score_laws.py.)
-/
namespace Go.Proofs.YtbedhpooeabehaaDoor
open Go Go.RowKit Go.Shelf

attribute [local go_sem] Oper.semAt_some ext_const

set_option maxRecDepth 100000 in
set_option maxHeartbeats 16000000 in
theorem bothWays_walk (d0 d1 d2 : Int) (w : World) (hTab : TabOk w) {va vb vc : Value} {a b c : List Nat} (ha0 : ArgW w va a) (hb0 : ArgW w vb b) (hc0 : ArgW w vc c) :
    Calls Tryd.prog 4 #[A3 d0 d1 d2, va, vb, vc] w fun e W' => e = .returned (.bool true) ∧ Below w.heap.size w W' := by
  have HAl : Hid (∀ w1, Below w.heap.size w w1 → Calls Tryd.prog 11 #[] w1 fun e W' => e = .returned (.bool true) ∧ Below w1.heap.size w1 W') := fun w1 h => alive14_calls w1 (hTab.below h hTab.lt)
  have HO1 : Hid (∀ w1, Below w.heap.size w w1 → Calls Tryd.prog 12 #[A3 d0 d1 d2, va, vb] w1 fun e W' => e = .returned (.tuple #[I (opV d0 d1 d2 a b), I (errK d0 d1 d2 [a, b])]) ∧ Below w1.heap.size w1 W') := fun w1 h => sopen_calls d0 d1 d2 w1 (hTab.below h hTab.lt) (ha0.1.later h) (hb0.1.later h)
  have HO2 : Hid (∀ w1, Below w.heap.size w w1 → Calls Tryd.prog 12 #[A3 d0 d1 d2, vb, va] w1 fun e W' => e = .returned (.tuple #[I (opV d0 d1 d2 b a), I (errK d0 d1 d2 [a, b])]) ∧ Below w1.heap.size w1 W') := fun w1 h => by
    have := sopen_calls d0 d1 d2 w1 (hTab.below h hTab.lt) (hb0.1.later h) (ha0.1.later h)
    rw [errK_swap d0 d1 d2 b a] at this
    exact this
  have HO3 : Hid (∀ w1, Below w.heap.size w w1 → Calls Tryd.prog 12 #[A3 d0 d1 d2, va, vc] w1 fun e W' => e = .returned (.tuple #[I (opV d0 d1 d2 a c), I (errK d0 d1 d2 [a, c])]) ∧ Below w1.heap.size w1 W') := fun w1 h => sopen_calls d0 d1 d2 w1 (hTab.below h hTab.lt) (ha0.1.later h) (hc0.1.later h)
  have HOW : Hid (∀ (w1 : World) (u : Value) (z : List Nat), Below w.heap.size w w1 → Wds w1 u z → Calls Tryd.prog 12 #[A3 d0 d1 d2, va, u] w1 fun e W' => e = .returned (.tuple #[I (opV d0 d1 d2 a z), I (errK d0 d1 d2 [a, z])]) ∧ Below w1.heap.size w1 W') := fun w1 u z h hu => sopen_calls d0 d1 d2 w1 (hTab.below h hTab.lt) (ha0.1.later h) hu
  have HOr : Hid (∀ (n : Int) (w1 : World), Below w.heap.size w w1 → Calls Tryd.prog 13 #[I n, vb, vc] w1 fun e W' => ∃ v, e = .returned (.tuple #[v, I (errAll n [b, c])]) ∧ SetR W' w1.heap.size v (joinW orW n b c) ∧ Below w1.heap.size w1 W') := fun n w1 h => or_calls w1 (hb0.1.later h) (hc0.1.later h) n
  have HMe : Hid (∀ (n : Int) (w1 : World), Below w.heap.size w w1 → Calls Tryd.prog 14 #[I n, vb, vc] w1 fun e W' => e = .returned (.tuple #[.bool (meetSB n b c), I (errAll n [b, c])]) ∧ Below w1.heap.size w1 W') := fun n w1 h => meet_calls w1 (hb0.1.later h) (hc0.1.later h) n
  have HOf : Hid (∀ (n : Int) (w1 : World), Calls Tryd.prog 15 #[I n, .slice none 0 0] w1 fun e W' => ∃ u ws, e = .returned (.tuple #[u, I (ofErr n [])]) ∧ SetR W' w1.heap.size u ws ∧ OfIs n [] ws ∧ Below w1.heap.size w1 W') := fun n w1 => of_calls (l := []) w1 (Sl.nil w1) (by simp) n
  have HWb : Hid ((∀ x ∈ b, x < 18446744073709551616) ∧ ∀ x ∈ c, x < 18446744073709551616) := ⟨hb0.1.1, hc0.1.1⟩
  obtain ⟨ao, ca, rfl, _⟩ := ha0.1.view
  obtain ⟨bo, cb, rfl, _⟩ := hb0.1.view
  obtain ⟨co, cc, rfl, _⟩ := hc0.1.view
  clear ha0 hb0 hc0 hTab
  generalize a.length = na at *
  generalize b.length = nb at *
  generalize c.length = nc at *
  have hT : Below w.heap.size w (w.alloc (.cells #[I d0, I d1, I d2] 26)) := (Below.refl _ w).alloc (Nat.le_refl _) _
  have b0 := Blk.new w 26 #[I d0, I d1, I d2]
  go_enter Tryd.func4, Tryd.ntmps4
  go_wp2_with fail
  refine (HAl.out _ hT).mono ?_
  rintro e w2 ⟨rfl, hB⟩
  replace b0 := b0.later hB
  replace hT := then_below hT hB
  clear hB HAl
  rcases (show (100 : Int) < (na : Int) ∨ (¬ (100 : Int) < (na : Int) ∧ (100 : Int) < (nb : Int)) ∨ (¬ (100 : Int) < (na : Int) ∧ ¬ (100 : Int) < (nb : Int) ∧ (100 : Int) < (nc : Int)) ∨ (¬ (100 : Int) < (na : Int) ∧ ¬ (100 : Int) < (nb : Int) ∧ ¬ (100 : Int) < (nc : Int)) by omega) with hl | ⟨hla, hl⟩ | ⟨hla, hlb, hl⟩ | ⟨hla, hlb, hlc⟩
  · go_wp2
    go_ret
    exact ⟨rfl, hT⟩
  · go_wp2
    go_ret
    exact ⟨rfl, hT⟩
  · go_wp2
    go_ret
    exact ⟨rfl, hT⟩
  obtain ⟨e0, e1, e2, ez⟩ := b0.three (Below.refl _ _)
  go_wp2_with fail
  refine (HO1.out _ hT).mono ?_
  rintro e w3 ⟨rfl, hB⟩
  replace b0 := b0.later hB
  replace hT := then_below hT hB
  clear hB e0 e1 e2 ez HO1 hla hlb hlc
  obtain ⟨e0, e1, e2, ez⟩ := b0.three (Below.refl _ _)
  go_wp2_with fail
  refine (HO2.out _ hT).mono ?_
  rintro e w4 ⟨rfl, hB⟩
  replace b0 := b0.later hB
  replace hT := then_below hT hB
  clear hB e0 e1 e2 ez HO2
  obtain ⟨e0, e1, e2, ez⟩ := b0.three (Below.refl _ _)
  go_wp2_with fail
  refine (HO3.out _ hT).mono ?_
  rintro e w5 ⟨rfl, hB⟩
  replace b0 := b0.later hB
  replace hT := then_below hT hB
  clear hB e0 e1 e2 ez HO3
  by_cases hE : errK d0 d1 d2 [a, b] = 0
  rotate_left
  · have h8 : errK d0 d1 d2 [a, b] = 8 := (errK_cases _ _ _ _).resolve_left hE
    rw [h8]
    clear hE h8 b0
    go_wp2
    go_ret
    exact ⟨rfl, hT⟩
  by_cases hG : errK d0 d1 d2 [a, c] = 0
  rotate_left
  · have h8 : errK d0 d1 d2 [a, c] = 8 := (errK_cases _ _ _ _).resolve_left hG
    rw [h8, hE]
    clear hE hG h8 b0
    go_wp2
    go_ret
    exact ⟨rfl, hT⟩
  obtain ⟨hd, hall⟩ := errK_zero hE
  have ea := hall a (by simp)
  have eb := hall b (by simp)
  have ec := (errK_zero hG).2 c (by simp)
  rw [hE, hG]
  have HF : Hid (∀ ws, OfIs (d0 * d1 * d2) [] ws → _) := fun ws hO => both_facts hd HWb.out.1 HWb.out.2 ea eb ec hO
  have HN0 : Hid (ofErr (d0 * d1 * d2) [] = 0) := by
    show _ = _
    have := N_bd hd
    unfold ofErr ofOk
    simp [okN]
    omega
  have hm1 : 0 ≤ d0 * d1 ∧ d0 * d1 ≤ 16 * 16 := mul_bd (by unfold mayD okD at hd; omega) (by unfold mayD okD at hd; omega) (by unfold mayD okD at hd; omega) (by unfold mayD okD at hd; omega)
  have hnb := N_bd hd
  have eyx : opV d0 d1 d2 b a = opV d0 d1 d2 a b := by
    unfold opV
    rw [errK_swap d0 d1 d2 b a, open_sym hd]
  rw [eyx]
  have hxb := opV_bd hd a b
  have hzb := opV_bd hd a c
  have HBd : Hid (∀ z, 0 ≤ opV d0 d1 d2 a z ∧ opV d0 d1 d2 a z ≤ 24576) := fun z => opV_bd hd a z
  have HEbc : Hid (errAll (d0 * d1 * d2) [b, c] = 0) := errAll_both eb ec
  have HOr' : Hid (∀ (w1 : World), Below w.heap.size w w1 → Calls Tryd.prog 13 #[I (d0 * d1 * d2), .slice bo nb cb, .slice co nc cc] w1 fun e W' => ∃ v, e = .returned (.tuple #[v, I 0]) ∧ SetR W' w1.heap.size v (joinW orW (d0 * d1 * d2) b c) ∧ Below w1.heap.size w1 W') := fun w1 h => by
    have := HOr.out (d0 * d1 * d2) w1 h
    rw [HEbc.out] at this
    exact this
  have HMe' : Hid (∀ (w1 : World), Below w.heap.size w w1 → Calls Tryd.prog 14 #[I (d0 * d1 * d2), .slice bo nb cb, .slice co nc cc] w1 fun e W' => e = .returned (.tuple #[.bool (meetSB (d0 * d1 * d2) b c), I 0]) ∧ Below w1.heap.size w1 W') := fun w1 h => by
    have := HMe.out (d0 * d1 * d2) w1 h
    rw [HEbc.out] at this
    exact this
  have HOf' : Hid (∀ (w1 : World), Calls Tryd.prog 15 #[I (d0 * d1 * d2), .slice none 0 0] w1 fun e W' => ∃ u ws, e = .returned (.tuple #[u, I 0]) ∧ SetR W' w1.heap.size u ws ∧ OfIs (d0 * d1 * d2) [] ws ∧ Below w1.heap.size w1 W') := fun w1 => by
    have := HOf.out (d0 * d1 * d2) w1
    rw [HN0.out] at this
    exact this
  clear hE hG hall ea eb ec hd eyx HOr HMe HOf HEbc HN0 HWb
  obtain ⟨e0, e1, e2, ez⟩ := b0.three (Below.refl _ _)
  go_wp2_with fail
  refine (HOr'.out _ hT).mono ?_
  rintro e w6 ⟨u, rfl, hU, hB⟩
  replace b0 := b0.later hB
  replace hT := then_below hT hB
  clear hB e0 e1 e2 ez
  replace hU := hU.wds
  obtain ⟨uo, uc, rfl, hU0⟩ := hU.view
  clear hU0 HOr' hm1
  generalize meetSB (d0 * d1 * d2) b c = mt at *
  obtain ⟨z, hz⟩ : ∃ z, z = joinW orW (d0 * d1 * d2) b c := ⟨_, rfl⟩
  rw [← hz] at HF hU
  rw [← hz]
  clear hz
  generalize d0 * d1 * d2 = N at *
  go_wp2_with fail
  refine (HMe'.out _ hT).mono ?_
  rintro e w7 ⟨rfl, hB⟩
  replace b0 := b0.later hB
  replace hU := hU.later hB
  replace hT := then_below hT hB
  clear hB HMe'
  have HWo := HOW.out _ _ _ hT hU
  obtain ⟨x, hx⟩ : ∃ x, x = opV d0 d1 d2 a b := ⟨_, rfl⟩
  obtain ⟨y, hy⟩ : ∃ y, y = opV d0 d1 d2 a c := ⟨_, rfl⟩
  obtain ⟨xw, hxw⟩ : ∃ xw, xw = opV d0 d1 d2 a z := ⟨_, rfl⟩
  obtain ⟨ew, hew⟩ : ∃ ew, ew = errK d0 d1 d2 [a, z] := ⟨_, rfl⟩
  rw [← hxw, ← hew] at HWo
  rw [← hx, ← hy]
  rw [← hx] at hxb
  rw [← hy] at hzb
  rw [← hx, ← hy, ← hxw, ← hew] at HF
  have HBw : Hid (0 ≤ xw ∧ xw ≤ 24576) := by rw [hxw]; exact HBd.out z
  clear hx hy hxw hew hU
  generalize z.length = nz at *
  obtain ⟨e0, e1, e2, ez⟩ := b0.three (Below.refl _ _)
  go_wp2_with fail
  refine (HWo).mono ?_
  rintro e w8 ⟨rfl, hB⟩
  replace b0 := b0.later hB
  replace hT := then_below hT hB
  clear hB e0 e1 e2 ez HWo
  go_wp2_with fail
  refine (HOf'.out _).mono ?_
  rintro e w9 ⟨v, ws, rfl, hV, hO, hB⟩
  replace b0 := b0.later hB
  replace hT := then_below hT hB
  clear hB HOf'
  replace hV := hV.wds
  obtain ⟨vo, vc', rfl, hV0⟩ := hV.view
  have HWo := HOW.out _ _ _ hT hV
  obtain ⟨_, f1, f2, f3, f4, f5, _⟩ := HF.out ws hO
  rw [f4, f5] at HWo
  subst f1
  clear f4 f5 hV hO hV0 HF HOW
  generalize ws.length = nv at *
  obtain ⟨e0, e1, e2, ez⟩ := b0.three (Below.refl _ _)
  go_wp2_with fail
  refine (HWo).mono ?_
  rintro e w10 ⟨rfl, hB⟩
  replace b0 := b0.later hB
  replace hT := then_below hT hB
  clear hB e0 e1 e2 ez HWo
  obtain ⟨g1, g2⟩ := HBw.out
  obtain ⟨g3, g4⟩ := hxb
  obtain ⟨g5, g6⟩ := hzb
  clear HBd HBw
  cases mt
  · obtain rfl := f3 rfl
    clear f3
    go_wp2
    go_ret
    exact ⟨rfl, hT⟩
  · clear f3
    go_wp2
    go_ret
    exact ⟨rfl, hT⟩

end Go.Proofs.YtbedhpooeabehaaDoor

/-
  How the arguments of this seat's statements are opened: whole numbers, and rows of three of them.
-/
namespace Go.Proofs.YtbedhpooeabehaaDoor
open Go.ChangeShapes Go.WideShapes Go.ChangeAt Go.RowKit

theorem own : ownKnob Tryd.prog.godebug = none := by kernel_rfl
theorem laidOut : laidOutB Tryd.prog = true := by kernel_rfl

theorem list3 {α : Type} (l : List α) (h : (⟨l⟩ : Array α).size = 3) : ∃ a b c, l = [a, b, c] := by
  match l, h with
  | [a, b, c], _ => exact ⟨a, b, c, rfl⟩

/-- A row of three whole numbers, by value. -/
theorem open_arr3 {P : Program} {w : World} {H : Type} {enc : TypeId × Value → H} {r : Reach} {b0 base : Nat} {spare : Nat → Bool} {held : Bool} {t e : TypeId} {v : Value} {d : DataW H} {p : List MemPlace}
    (ht : P.underlying t = some (.array 3 e)) (he : P.underlying e = some (.int .i64)) (hce : P.cellsOf e = 1) (hct : P.cellsOf t = 3)
    (hv : Value.okWide P w r b0 t v) (h : DataW.Trod enc P w base spare held t v d p) :
    ∃ a b c : Int, v = A3 a b c ∧ (Lit.int .i64 a).wf = true ∧ (Lit.int .i64 b).wf = true ∧ (Lit.int .i64 c).wf = true := by
  obtain ⟨cs, rfl, hsz, _⟩ : ∃ cs, v = .agg cs ∧ cs.size = P.cellsOf t ∧ Row.okWide P w r b0 t cs := by
    simpa [Value.okWide, ht] using hv
  rw [hct] at hsz
  obtain ⟨l⟩ := cs
  obtain ⟨c0, c1, c2, rfl⟩ := list3 l hsz
  obtain ⟨fuel, hf⟩ := h
  obtain ⟨y0, y1, y2, m, hx, hy0, hy1, hy2⟩ := trod_array3 ht hce hf
  obtain ⟨x0, e0, rfl, w0⟩ := DataW.trod_int he hy0
  obtain ⟨x1, e1, rfl, w1⟩ := DataW.trod_int he hy1
  obtain ⟨x2, e2, rfl, w2⟩ := DataW.trod_int he hy2
  simp at e0 e1 e2
  subst e0 e1 e2
  exact ⟨x0, x1, x2, rfl, w0, w1, w2⟩

theorem open_num {P : Program} {w : World} {H : Type} {enc : TypeId × Value → H} {r : Reach} {b0 base : Nat} {spare : Nat → Bool} {held : Bool} {t : TypeId} {k : IntKind} {v : Value} {d : DataW H} {p : List MemPlace}
    (ht : P.underlying t = some (.int k)) (hv : Value.okWide P w r b0 t v) (h : DataW.Trod enc P w base spare held t v d p) :
    ∃ a : Int, v = .int k a ∧ (Lit.int k a).wf = true := by
  obtain ⟨x, rfl, rfl, rfl, wx⟩ := open_int ht hv h
  exact ⟨x, rfl, wx⟩

theorem trod_lt' {H : Type} {enc : TypeId × Value → H} {P : Program} {W : World} {t : TypeId} {v : Value} {d : DataW H} {ps : List MemPlace} {sp : Nat → Bool} (h : DataW.Trod enc P W 0 sp true t v d ps) : ∀ x ∈ ps, x.block < W.heap.size := by
  obtain ⟨m, hm⟩ := h; exact DataW.trod_lt m _ _ _ hm

end Go.Proofs.YtbedhpooeabehaaDoor

/-
  How a set, and a list of whole numbers, among a statement's arguments is opened.
-/
namespace Go.Proofs.YtbedhpooeabehaaDoor
open Go Go.ChangeShapes Go.WideShapes Go.ChangeAt Go.RowKit

theorem spot_none {w : World} {a : Addr} {v : Value} (h : w.cell? a = some v) : a.spot = none := by
  unfold World.cell? at h
  split at h
  · split at h
    · cases h
    · rename_i hs
      cases hq : a.spot
      · rfl
      · rw [hq] at hs; exact absurd rfl hs
  · cases h
theorem block_lt {w : World} {a : Addr} {v : Value} (h : w.cell? a = some v) : a.block < w.heap.size := by
  unfold World.cell? at h
  split at h
  · rename_i hs
    exact (Array.getElem?_eq_some_iff.1 hs).1
  · cases h

set_option maxRecDepth 100000 in
/-- A slice of numbers of one kind, as it came in. -/
theorem open_row_of {P : Program} {w : World} {H : Type} {enc : TypeId × Value → H} {r : Reach} {b0 base : Nat} {spare : Nat → Bool} {held : Bool} {t e : TypeId} {k : IntKind} {v : Value} {d : DataW H} {p : List MemPlace}
    (ht : P.underlying t = some (.slice e)) (he : P.underlying e = some (.int k)) (hc : P.cellsOf e = 1)
    (hv : Value.okWide P w r b0 t v) (h : DataW.Trod enc P w base spare held t v d p) :
    ∃ zs : List Int, (∀ z ∈ zs, (Lit.int k z).wf = true) ∧ Sl w v (zs.map (Value.int k)) ∧ (v = .slice none 0 0 ∧ zs = [] ∨ ∃ ad cap, v = .slice (some ad) zs.length cap) := by
  obtain ⟨a, len, cap, rfl⟩ := okWide_slice ht hv
  obtain ⟨fuel, hf⟩ := h
  rcases open_ints ht he hc hf with ⟨hcs, -⟩ | ⟨a0, len0, cap0, zs, hcs, _, hl, _, hz, _, hcell, hwf⟩
  · have e0 : Value.slice a len cap = .slice none 0 0 := by
      have : [Value.slice a len cap] = [.slice none 0 0] := hcs
      exact List.head_eq_of_cons_eq this
    rw [e0]
    exact ⟨[], fun _ h => (by cases h), Sl.nil w, .inl ⟨rfl, rfl⟩⟩
  · have e0 : Value.slice a len cap = .slice (some a0) len0 cap0 := by
      have : [Value.slice a len cap] = [.slice (some a0) len0 cap0] := hcs
      exact List.head_eq_of_cons_eq this
    rw [e0]
    have hlz : len0 ≤ zs.length := by rw [hz]; split <;> omega
    have hlt : (zs.take len0).length = len0 := by simp [hlz]
    refine ⟨zs.take len0, fun z hz' => hwf z (List.mem_of_mem_take hz'), ⟨some a0, cap0, by simp [hlz], fun i hi => ?_⟩, .inr ⟨a0, cap0, by rw [hlt]⟩⟩
    rw [List.length_map, hlt] at hi
    have hi2 : i < zs.length := by omega
    have c0 := hcell i hi2
    have cc := hcell 0 (by omega)
    obtain ⟨g, off, sp⟩ := a0
    have hs : sp = none := by
      have := spot_none cc
      simpa [Addr.add] using this
    subst hs
    have ea : (⟨g, off, none⟩ : Addr).add i = ⟨g, off + i, none⟩ := by
      unfold Addr.add
      split
      · rename_i h0; subst h0; rfl
      · rfl
    rw [ea] at c0
    exact ⟨g, off, rfl, block_lt c0, by rw [c0]; simp [hi, hi2]⟩

theorem word_of {z : Int} (h : (Lit.int .u64 z).wf = true) : 0 ≤ z ∧ z < 18446744073709551616 := by
  unfold Lit.wf at h
  simp [IntKind.min, IntKind.max, IntKind.signed, IntKind.bits] at h
  omega

set_option maxRecDepth 100000 in
theorem open_set {w : World} {H : Type} {enc : TypeId × Value → H} {r : Reach} {b0 base : Nat} {spare : Nat → Bool} {held : Bool} {v : Value} {d : DataW H} {p : List MemPlace}
    (hv : Value.okWide Tryd.prog w r b0 36 v) (h : DataW.Trod enc Tryd.prog w base spare held 36 v d p) : ∃ ws : List Nat, ArgW w v ws := by
  obtain ⟨zs, hw, hs, hc⟩ := open_row_of Tryd.underlying36 Tryd.underlying34 (by kernel_rfl) hv h
  have e : (zs.map Int.toNat).map U = zs.map (Value.int .u64) := by
    rw [List.map_map]
    apply List.map_congr_left
    intro z hz
    have := word_of (hw z hz)
    show Value.int .u64 ((z.toNat : Nat) : Int) = _
    rw [Int.toNat_of_nonneg this.1]
  refine ⟨zs.map Int.toNat, ⟨fun x hx => ?_, by rw [e]; exact hs⟩, ?_⟩
  · obtain ⟨z, hz, rfl⟩ := List.mem_map.1 hx
    have := word_of (hw z hz)
    omega
  · rcases hc with ⟨rfl, _⟩ | ⟨ad, cap, rfl⟩
    · exact .inl rfl
    · exact .inr ⟨ad, cap, by simp⟩

set_option maxRecDepth 100000 in
theorem open_list {w : World} {H : Type} {enc : TypeId × Value → H} {r : Reach} {b0 base : Nat} {spare : Nat → Bool} {held : Bool} {v : Value} {d : DataW H} {p : List MemPlace}
    (hv : Value.okWide Tryd.prog w r b0 49 v) (h : DataW.Trod enc Tryd.prog w base spare held 49 v d p) : ∃ xs : List Int, ArgI w v xs ∧ ∀ x ∈ xs, (Lit.int .i64 x).wf = true := by
  obtain ⟨zs, hw, hs, hc⟩ := open_row_of Tryd.underlying49 Tryd.underlying3 (by kernel_rfl) hv h
  refine ⟨zs, ⟨hs, ?_⟩, hw⟩
  rcases hc with ⟨rfl, _⟩ | h
  · exact .inl rfl
  · exact .inr h

end Go.Proofs.YtbedhpooeabehaaDoor

/-
  What the statements that list math/bits' table ask ahead of a walk: the table lies in its variable, as the condition says.
-/
namespace Go.Proofs.YtbedhpooeabehaaDoor
open Go Go.ChangeShapes Go.WideShapes Go.ChangeAt Go.RowKit

def tabLaid : List (String × DataW Unit) := [("math/bits.deBruijn64tab", Rows.laid_math_bits_deBruijn64tab)]

theorem tab_named : Tryd.prog.globalNamed "math/bits.deBruijn64tab" = some 0 := by kernel_rfl
theorem tab_type : (Tryd.prog.globals[0]?).map (·.type) = some 107 := by kernel_rfl

/-- The heap that the program's own start leaves meets the condition. -/
theorem door_met (os : Os) (args : Array Value) : laidMetH Tryd.prog tabLaid ((World.doorLaid Tryd.prog 14 os).forCall (fun _ _ => 0) ⟨#[], args, []⟩).memory :=
  laidMetH_of_parts3 (fuel := 8) (laidMet_of_run' 8 (by kernel_rfl) (by kernel_rfl)) (by kernel_rfl) (by kernel_rfl)

theorem tab_datum : (Rows.laid_math_bits_deBruijn64tab : DataW Unit) = Lib.tabData .u8 (ofN Lib.deBruijn64tab) := rfl

theorem tab_of {W : World} (h : laidMetH Tryd.prog tabLaid W) : TabOk W := by
  rw [MakeChecks.laidMetH_plain _ _ _ (by kernel_rfl)] at h
  unfold tabLaid at h
  rw [tab_datum] at h
  have hT := Lib.tabIs_of_head tab_named tab_type Tryd.underlying107 Tryd.underlying5 (by kernel_rfl) (by kernel_rfl) h
  intro j hj
  have := hT.cell tab_named j (by rw [ofN_len]; exact hj)
  rw [this, ofN_get]

/-- No parameter's type asks for a stand-in. -/
theorem noS_stand_in (ts : Array TypeId) (h : (ts.toList.all fun t => !Tryd.prog.wantsStandIn t) = true) (j : Nat) (t : TypeId) (ht : ts[j]? = some t) : Tryd.prog.wantsStandIn t = false := by
  have hm : t ∈ ts.toList := by
    obtain ⟨hlt, he⟩ := Array.getElem?_eq_some_iff.1 ht
    rw [← he]
    exact Array.getElem_mem_toList hlt
  have := List.all_eq_true.1 h t hm
  simpa using this

end Go.Proofs.YtbedhpooeabehaaDoor

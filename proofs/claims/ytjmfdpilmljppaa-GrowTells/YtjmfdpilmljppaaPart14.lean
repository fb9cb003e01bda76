/-
  grow.among: what tells of boxes whether they stand in a list, by a map from boxes on.
-/
import Derived.Test.YtjmfdpilmljppaaPart13
import Derived.Maps.OwnSet
import Derived.Maps.OwnOps
import Derived.Maps.OwnIn
import Derived.Maps.Views
import Derived.DeepKeys4
import Derived.Carry
import Derived.Test.YtjmfdpilmljppaaPart11
namespace Go.Proofs.Ytjmfdpilmljppaa
open Go Go.RowKit Go.Shelf Go.Maps

attribute [local go_sem] Oper.semAt_some ext_const

set_option maxRecDepth 100000 in
theorem rowBx : (32 : TypeId) < Try.prog.types.size := of_decide_eq_true (by kernel_rfl)
set_option maxRecDepth 100000 in
theorem wideBx : (match Try.prog.underlying 32 with | some (.array _ _) | some (.struct _) => true | _ => false) = true := by kernel_rfl
set_option maxRecDepth 100000 in
theorem laidOutX : laidOutB Try.prog = true := by kernel_rfl
set_option maxRecDepth 100000 in
theorem lawBx : Maps.Keyed Try.prog 32 := Maps.Keyed.of_law (deep_law_laid laidOutX (m := 4) (by omega) rowBx (by kernel_rfl) wideBx)
set_option maxRecDepth 100000 in
theorem keyTypeBx : Try.prog.keyType 32 = true := by kernel_rfl
def keyLitsBx (b : Bx) : List Lit := [.int .i64 b.x, .int .i64 b.y, .int .i64 b.z, .int .i64 b.a, .int .i64 b.b, .int .i64 b.c]
def keyBx (b : Bx) : Lit := .string (keyBytes (keyLitsBx b))
set_option maxRecDepth 100000 in
theorem key_bx {d0 d1 d2 : Int} (h : mayD d0 d1 d2) {b : Bx} (hb : mayB d0 d1 d2 b) : keyOf Try.prog 32 (B6 b) = some (keyBx b) := by
  have hwf : (Lit.int .i64 b.x).wf = true ∧ (Lit.int .i64 b.y).wf = true ∧ (Lit.int .i64 b.z).wf = true ∧ (Lit.int .i64 b.a).wf = true ∧ (Lit.int .i64 b.b).wf = true ∧ (Lit.int .i64 b.c).wf = true := by
    obtain ⟨b0, b1, b2⟩ := hb
    obtain ⟨⟨_, u0⟩, ⟨_, u1⟩, _, u2⟩ := h
    simp only [mayS] at b0 b1 b2
    refine ⟨?_, ?_, ?_, ?_, ?_, ?_⟩ <;> exact WalkArith.wf_i64 (by omega)
  obtain ⟨wx, wy, wz, wa, wb, wc⟩ := hwf
  obtain ⟨g0, g1, hu2, s0, q0, m0, s1, q1, m1⟩ : ∃ f0 f1, Try.prog.underlying 32 = some (.struct #[f0, f1]) ∧ f0.type = 25 ∧ f0.offset = 0 ∧ (f0.name != "_") = true ∧ f1.type = 25 ∧ f1.offset = 3 ∧ (f1.name != "_") = true := ⟨_, _, rfl, rfl, rfl, rfl, rfl, rfl, rfl⟩
  have c6 : Try.prog.cellsOf 32 = 6 := by kernel_rfl
  have c3 : Try.prog.cellsOf 25 = 3 := by kernel_rfl
  have c1 : Try.prog.cellsOf 3 = 1 := by kernel_rfl
  have hI : ∀ d (a b c : Int), (Lit.int .i64 a).wf = true → (Lit.int .i64 b).wf = true → (Lit.int .i64 c).wf = true → Try.prog.keyLits (d + 2) 25 [.int .i64 a, .int .i64 b, .int .i64 c] = some [.int .i64 a, .int .i64 b, .int .i64 c] := by
    intro d a b c ha hb hc
    simp [Program.keyLits, Try.underlying25, Try.underlying3, c3, c1, show List.range 3 = [0, 1, 2] from rfl, ha, hb, hc]
  have hX : ∀ d, Try.prog.keyLits (d + 3) 32 [.int .i64 b.x, .int .i64 b.y, .int .i64 b.z, .int .i64 b.a, .int .i64 b.b, .int .i64 b.c] = some (keyLitsBx b) := by
    intro d
    have hall : (#[g0, g1] : Array Field).all (fun f => f.name != "_") = true := by
      rw [← Array.all_toList]
      simp only [List.all_cons, List.all_nil, m0, m1, Bool.and_self]
    unfold Program.keyLits
    rw [hu2]
    simp only [c6, hall, List.length_cons, List.length_nil, and_self, if_true]
    simp [s0, q0, s1, q1, c3, hI d b.x b.y b.z wx wy wz, hI d b.a b.b b.c wa wb wc, keyLitsBx]
  obtain ⟨m, hm⟩ : ∃ m, Try.prog.types.size + 1 = m + 3 := ⟨Try.prog.types.size - 2, by have hr : (32 : Nat) < Try.prog.types.size := rowBx; omega⟩
  have hf : (B6 b).formed Try.prog 32 = true := by simp [Value.formed, hu2, c6]
  unfold keyOf
  rw [hu2]
  simp only [keyTypeBx, hf, Bool.and_self, if_true]
  rw [hm]
  have : (B6 b).cells.toList = [.int .i64 b.x, .int .i64 b.y, .int .i64 b.z, .int .i64 b.a, .int .i64 b.b, .int .i64 b.c] := rfl
  rw [this, hX]
  rfl
theorem keyBx_inj {d0 d1 d2 : Int} (h : mayD d0 d1 d2) {a b : Bx} (ha : mayB d0 d1 d2 a) (hb : mayB d0 d1 d2 b) (e : keyBx a = keyBx b) : a = b := by
  obtain ⟨x, y, z, u, v, w⟩ := a
  obtain ⟨x', y', z', u', v', w'⟩ := b
  have := lawBx.inj (key_bx h ha) ((key_bx h hb).trans (by rw [e]))
  simp only [Value.agg.injEq, Array.mk.injEq, List.cons.injEq, Value.int.injEq] at this
  simp_all

/-- A box stands in a list. -/
def memX (xs : List Bx) (b : Bx) : Bool := xs.any fun x => sameBx x b
theorem memX_iff {xs : List Bx} {b : Bx} : memX xs b = true ↔ b ∈ xs := by
  unfold memX
  rw [List.any_eq_true]
  constructor
  · rintro ⟨x, hx, h⟩
    exact (sameBx_iff x b).1 h ▸ hx
  · intro h
    exact ⟨b, h, sameBx_self b⟩
theorem memX_app (xs : List Bx) (y b : Bx) : memX (xs ++ [y]) b = (memX xs b || sameBx y b) := by simp [memX]
/-- The keys of a map are just these boxes. -/
def KnowsX (d0 d1 d2 : Int) (D : DataW Unit) (xs : List Bx) : Prop := IsMap D ∧ ∀ b, mayB d0 d1 d2 b → Maps.has D (keyBx b) = memX xs b
theorem knowsX_none (d0 d1 d2 : Int) : KnowsX d0 d1 d2 (.map []) [] := ⟨isMap_empty, fun b _ => by simp [Maps.has, memX]⟩
theorem knowsX_put {d0 d1 d2 : Int} (hd : mayD d0 d1 d2) {D : DataW Unit} {xs : List Bx} {y : Bx} (h : KnowsX d0 d1 d2 D xs) (hy : mayB d0 d1 d2 y) (d : DataW Unit) : KnowsX d0 d1 d2 (D.put (keyBx y) d) (xs ++ [y]) := by
  refine ⟨h.1.put _ _, fun b hb => ?_⟩
  by_cases e : b = y
  · subst e
    rw [has_put_same h.1 (lawBx.key (key_bx hd hy)), memX_app, sameBx_self, Bool.or_true]
  · rw [has_put_other (fun k => e (keyBx_inj hd hb hy k)), h.2 b hb, memX_app]
    have : sameBx y b = false := by
      cases hs : sameBx y b
      · rfl
      · exact absurd ((sameBx_iff y b).1 hs).symm e
    rw [this, Bool.or_false]
abbrev Jx (W : World) (g n : Nat) (D : DataW Unit) : Prop := W.ownsMap Try.prog 32 (unitElem (H := Unit)) g n D
theorem Jx.later {W W' : World} {g n : Nat} {D : DataW Unit} (h : Jx W g n D) (hb : Below W.heap.size W W') : Jx W' g n D := by
  have hlt := World.ownsMap.lt h
  obtain ⟨es, clock, e, r⟩ := h
  exact ⟨es, clock, (hb.block g hlt).trans e, r⟩
theorem Jx.noCells {W : World} {g n : Nat} {D : DataW Unit} (h : Jx W g n D) : ∃ o : Obj, W.heap[g]? = some o ∧ o.isCells = false := by
  obtain ⟨es, ck, hh, _⟩ := h
  exact ⟨_, hh, rfl⟩

set_option maxRecDepth 100000 in
theorem zeroUx (w : World) : (zeroValue 108).run Try.prog w = .ok (.agg #[]) w := by kernel_rfl

set_option maxRecDepth 100000 in
theorem run_makeMapX (n : Nat) (w : World) : (Instr.makeMap 107 (some (.int .i64 n))).run Try.prog w = .ok (.map (some w.heap.size)) (w.alloc (.map #[] 0)) := by
  simp [Instr.makeMap, go_sem]

set_option maxRecDepth 100000 in
set_option maxHeartbeats 4000000 in
/-- One question. -/
theorem isIn_calls {d0 d1 d2 : Int} (hd : mayD d0 d1 d2) {b : Bx} (hb : mayB d0 d1 d2 b) {xs : List Bx} {p g n : Nat} {D : DataW Unit} (w : World) (hp : Blk w p 107 #[.map (some g)]) (hm : Jx w g n D) (hk : KnowsX d0 d1 d2 D xs) :
    Calls Try.prog 64 #[B6 b, .pointer (some ⟨p, 0, none⟩)] w fun e W' => e = .returned (.bool (memX xs b)) ∧ Below w.heap.size w W' := by
  have hkey := key_bx hd hb
  have hA := hk.2 b hb
  have hB0 : Below w.heap.size w (w.alloc (.cells (C6 b) 32)) := (Below.refl _ w).alloc (Nat.le_refl _) _
  have hm0 := hm.later hB0
  have cp := hp.cell 0
  have hz := hp.lt
  simp at cp
  clear hk hd hb hm
  generalize keyBx b = kl at *
  have HA : Hid (Maps.has D kl = memX xs b) := hA
  clear hA
  go_enter Try.func64, Try.ntmps64
  go_wp2_with (at_lookup; refine wpList_lookup_own_unit _ rfl _ _ 107 rfl 32 108 lawBx Try.underlying107 (zeroUx _) g n D rfl hm0 _ _ rfl hkey ?_)
  have hT : Below w.heap.size w ((w.alloc (.cells (C6 b) 32)).alloc (.cells #[] 108)) := hB0.alloc (by simp) _
  exact bodyPost_ret (v := .bool (Maps.has D kl)) (by simp [results, Try.f64, go_sem]) rfl ⟨by rw [HA.out], hT⟩

set_option maxRecDepth 100000 in
set_option maxHeartbeats 8000000 in
theorem among_calls {d0 d1 d2 : Int} (hd : mayD d0 d1 d2) {xs : List Bx} {v : Value} {base : Nat} (w : World) (hL : Lx w base v xs) (hx : ∀ x ∈ xs, mayB d0 d1 d2 x) (hl : xs.length ≤ 1000000) :
    Calls Try.prog 36 #[v] w fun e W' => ∃ p g n D, e = .returned (.func (.func 64) #[] #[.pointer (some ⟨p, 0, none⟩)]) ∧ Blk W' p 107 #[.map (some g)] ∧ Jx W' g n D ∧ KnowsX d0 d1 d2 D xs ∧ Below w.heap.size w W' := by
  have hmm := run_makeMapX
  obtain ⟨ao, cap, rfl, hL⟩ := hL.form
  have HM : Hid (Jx ((w.alloc (.map #[] 0)).alloc (.cells #[.map (some w.heap.size)] 107)) w.heap.size 0 (.map [])) := (World.ownsMap_made w Try.prog 32 (unitElem (H := Unit))).alloc _
  have HB : Hid (Below w.heap.size w ((w.alloc (.map #[] 0)).alloc (.cells #[.map (some w.heap.size)] 107))) := ((Below.refl _ w).alloc (Nat.le_refl _) _).alloc (by simp) _
  have HP : Hid (Blk ((w.alloc (.map #[] 0)).alloc (.cells #[.map (some w.heap.size)] 107)) (w.heap.size + 1) 107 #[.map (some w.heap.size)]) := by
    have := Blk.new (w.alloc (.map #[] 0)) 107 #[.map (some w.heap.size)]
    simpa [Hid] using this
  have HX : Hid ((∀ x ∈ xs, mayB d0 d1 d2 x) ∧ mayD d0 d1 d2) := ⟨hx, hd⟩
  have HN : Hid (w.heap.size + 1 ≠ w.heap.size) := by show _ ≠ _; omega
  clear hx hd
  go_enter Try.func36, Try.ntmps36
  go_wp2
  go_loopw [11] (fun i wr => ∃ (k : Nat) (D : DataW Unit), k ≤ xs.length ∧ i = .int .i64 k ∧ Hid (KnowsX d0 d1 d2 D (xs.take k)) ∧ Hid (Jx wr w.heap.size k D) ∧ Blk wr (w.heap.size + 1) 107 #[.map (some w.heap.size)] ∧ Lx wr base (.slice ao xs.length cap) xs ∧ Hid (Below w.heap.size w wr)) (fun i _ => xs.length - (RowKit.intOf i).toNat)
  case atStart => exact ⟨0, _, by omega, rfl, knowsX_none _ _ _, HM.out, HP.out, hL.later HB.out, HB.out⟩
  case round =>
    clear HM HP HB hL
    obtain ⟨k, D, hk, rfl, HK, HJ, hp, hLr, HBw⟩ := hrel
    by_cases hlt : (k : Int) < (xs.length : Int)
    · have hk2 : k < xs.length := by omega
      obtain ⟨gl, rfl, hat⟩ := hLr.at hk2
      obtain ⟨b, hb⟩ : ∃ b, b = xs.getD k zX := ⟨_, rfl⟩
      have hbm : b ∈ xs := by rw [hb]; simp [hk2]
      have hmay := HX.out.1 b hbm
      have hkey := key_bx HX.out.2 hmay
      have HK2 : Hid (∀ d, KnowsX d0 d1 d2 (D.put (keyBx b) d) (xs.take (k + 1))) := fun d => by
        have := knowsX_put HX.out.2 HK.out hmay d
        rwa [show xs.take k ++ [b] = xs.take (k + 1) from by rw [List.take_succ_eq_append_getElem hk2, hb]; simp [hk2]] at this
      rw [← hb] at hat
      obtain ⟨c0, c1, c2, c3, c4, c5⟩ := hat.cells
      have hzl := hat.lt
      have hB1 : Below wr.heap.size wr (wr.alloc (.cells (C6 b) 32)) := (Below.refl _ wr).alloc (Nat.le_refl _) _
      have hm1 := Jx.later HJ.out hB1
      have HAll : Hid (Blk (wr.alloc (.cells (C6 b) 32)) (w.heap.size + 1) 107 #[.map (some w.heap.size)] ∧ Lx (wr.alloc (.cells (C6 b) 32)) base (.slice (some ⟨gl, 0, none⟩) xs.length cap) xs ∧ Below w.heap.size w (wr.alloc (.cells (C6 b) 32))) := ⟨hp.later hB1, hLr.later hB1, then_below HBw.out hB1⟩
      have cp := hp.cell 0
      have hz := hp.lt
      simp at cp
      clear hbm hmay hb hat hB1 HK HJ hp hLr HBw
      generalize keyBx b = kl at *
      go_wp2_with (at_mapUpdate; refine wpList_mapUpdate_own _ rfl _ _ _ 107 rfl 32 108 lawBx Try.underlying107 _ w.heap.size k D rfl hm1 (by unfold maxLen; omega) _ _ _ rfl rfl hkey _ [] unitElem_mk ?_; intro w2 hO2 hG2)
      obtain ⟨h1, h2, h3⟩ := HAll.out
      have hno := Jx.noCells hm1
      have hrow : ∀ r, some w.heap.size = some r → ∃ o : Obj, (wr.alloc (.cells (C6 b) 32)).heap[r]? = some o ∧ o.isCells = false := fun r e => by cases e; exact hno
      exact ⟨⟨k + 1, _, by omega, by go_num, HK2.out _, hO2, h1.kept hG2 hrow, h2.kept hG2 hrow, h3.grown hG2 h3.size (fun r e => by cases e; exact Nat.le_refl _)⟩, by simp [RowKit.intOf]; omega⟩
    · obtain rfl : k = xs.length := by omega
      have HK3 : Hid (KnowsX d0 d1 d2 D xs) := by
        have := HK.out
        rwa [List.take_length] at this
      have HE : Hid (Blk wr (w.heap.size + 1) 107 #[.map (some w.heap.size)]) := hp
      clear HK hp hLr
      go_wp2
      exact bodyPost_ret (v := .func (.func 64) #[] #[.pointer (some ⟨w.heap.size + 1, 0, none⟩)]) (by simp [results, Try.f36, go_sem]) rfl ⟨_, rfl, _, HE.out, _, D, HJ.out, HK3.out, HBw.out⟩

end Go.Proofs.Ytjmfdpilmljppaa

/-
  grow.Free.
-/
namespace Go.Proofs.Ytjmfdpilmljppaa
open Go Go.RowKit Go.Shelf

attribute [local go_sem] Oper.semAt_some ext_const

/-- The free boxes, rising. -/
def freeL (d0 d1 d2 : Int) (ws : List Nat) : List Bx := (boxesZ d0 d1 d2).filter (clearX d0 d1 d2 ws)
def errF (d0 d1 d2 : Int) (ws : List Nat) : Int := if errG d0 d1 d2 ws = 0 then (if 64 < d0 * d1 * d2 then 4 else 0) else 8
def freeV (d0 d1 d2 : Int) (ws : List Nat) : List Bx := if errF d0 d1 d2 ws = 0 then freeL d0 d1 d2 ws else []

theorem boxesZ_len {d0 d1 d2 : Int} (hd : mayD d0 d1 d2) (hn : d0 * d1 * d2 ≤ 64) : (boxesZ d0 d1 d2).length ≤ 262144 := by
  have h1 : ∀ k : Nat, (bxP d0 d1 d2 k).length ≤ k * 4096 := by
    intro k
    induction k with
    | zero => simp [bxP]
    | succ k ih =>
      rw [bxP_succ, List.length_append]
      have h2 : (bxL d0 d1 d2 k (allZ d0 d1 d2)).length ≤ (allZ d0 d1 d2).length := by
        unfold bxL
        exact Nat.le_trans (List.length_filter_le _ _) (by simp)
      have h3 : (allZ d0 d1 d2).length ≤ 4096 := by
        have hr : ∀ x y j : Nat, (rowZ x y j).length = j := fun x y j => by simp [rowZ]
        have hp : ∀ c x i : Nat, (planeZ c x i).length = i * c := by
          intro c x i
          induction i with
          | zero => simp [planeZ]
          | succ i ih => rw [planeZ_succ, List.length_append, ih, hr, Nat.succ_mul]
        have hc : ∀ b c k : Nat, (cubeZ b c k).length = k * (b * c) := by
          intro b c k
          induction k with
          | zero => simp [cubeZ]
          | succ k ih => rw [cubeZ_succ, List.length_append, ih, hp, Nat.succ_mul]
        unfold allZ sizesZ
        rw [hc]
        obtain ⟨⟨a1, a2⟩, ⟨b1, b2⟩, c1, c2⟩ := hd
        have e0 : d0.toNat ≤ 16 := by omega
        have e1 : d1.toNat ≤ 16 := by omega
        have e2 : d2.toNat ≤ 16 := by omega
        calc d0.toNat * (d1.toNat * d2.toNat) ≤ 16 * (16 * 16) := Nat.mul_le_mul e0 (Nat.mul_le_mul e1 e2)
          _ = 4096 := rfl
      rw [Nat.succ_mul]
      omega
  have := h1 (d0 * d1 * d2).toNat
  unfold boxesZ
  omega

/-- What Free keeps while boxes are handed out. -/
structure FrPv (w : World) (base : Nat) (Bl Bm : Nat) (cm : Array Value) (v : Value) (ys : List Bx) (V : World) : Prop where
  below : Below w.heap.size w V
  s : Lx V base v ys
  l : Blk V Bl 36 #[v]
  m : Blk V Bm 63 cm
section
variable {w V V' : World} {base Bl Bm : Nat} {cm : Array Value} {v v' : Value} {ys ys' : List Bx}
theorem FrPv.later (h : FrPv w base Bl Bm cm v ys V) (hb : Below V.heap.size V V') : FrPv w base Bl Bm cm v ys V' :=
  ⟨then_below h.below hb, h.s.later hb, h.l.later hb, h.m.later hb⟩
theorem FrPv.grown (h : FrPv w base Bl Bm cm v ys V) {row : Option Nat} (hg : V.grownBy V' row) (hr : ∀ r, row = some r → w.heap.size ≤ r ∧ ∃ o : Obj, V.heap[r]? = some o ∧ o.isCells = false) : FrPv w base Bl Bm cm v ys V' := by
  have hc : ∀ r, row = some r → ∃ o : Obj, V.heap[r]? = some o ∧ o.isCells = false := fun r e => (hr r e).2
  exact ⟨h.below.grown hg h.below.size (fun r e => (hr r e).1), h.s.kept hg hc, h.l.kept hg hc, h.m.kept hg hc⟩
theorem FrPv.app (h : FrPv w base Bl Bm cm v ys V) (hg : V.grownBy V' v.ownBlock) (hL : Lx V' base v' ys') (hb : w.heap.size ≤ base) (hl : w.heap.size ≤ Bl) (hd : Bm ≠ Bl) : FrPv w base Bl Bm cm v' ys' (V'.setCell ⟨Bl, 0, none⟩ v') := by
  have k2 := h.l.grewX h.s hg (by decide)
  exact ⟨(h.below.grown hg h.below.size (fun r e => Nat.le_trans hb (h.s.own e).1)).setCell (p := ⟨Bl, 0, none⟩) hl _, hL.set k2 (by decide) _ _, k2.set 0 _, (h.m.grewX h.s hg (by decide)).other _ _ hd⟩
end
theorem keepsFrom_grewX {n : Nat} {W W' : World} {base : Nat} {v : Value} {xs : List Bx} (hL : Lx W base v xs) (hg : W.grownBy W' v.ownBlock) : KeepsFrom n W W' :=
  ⟨hg.size, fun k o _ hk ho => (hg.block k (Array.getElem?_eq_some_iff.1 hk).1 (fun e => by
    obtain ⟨_, cur, hc⟩ := hL.own e.symm
    rw [show W.heap[k]? = _ from hc] at hk
    cases hk
    cases ho)).trans hk⟩

set_option maxRecDepth 100000 in
set_option maxHeartbeats 16000000 in
theorem gfree_ok {d0 d1 d2 : Int} {v : Value} {ws : List Nat} (w : World) (hd : mayD d0 d1 d2) (hv : Wds w v ws) (he : errAll (d0 * d1 * d2) [ws] = 0) (hg : errG d0 d1 d2 ws = 0) (hn : d0 * d1 * d2 ≤ 64) :
    Calls Try.prog 12 #[A3 d0 d1 d2, v] w fun e W' => ∃ u, e = .returned (.tuple #[u, I 0]) ∧ Lx W' w.heap.size u (freeL d0 d1 d2 ws) ∧ Below w.heap.size w W' := by
  have HSq : Hid (∀ (Bd : Nat) (w1 : World), Blk w1 Bd 26 #[I d0, I d1, I d2] → SeqO Try.prog 58 #[.pointer (some ⟨Bd, 0, none⟩)] encX okG (boxesZ d0 d1 d2) w1) := fun Bd w1 h1 => boxesZ_seq hd w1 h1
  have HBx : Hid (∀ w, Calls Try.prog 32 #[A3 d0 d1 d2] w fun e W' => e = .returned (.func (.func 58) #[] #[.pointer (some ⟨w.heap.size, 0, none⟩)]) ∧ W' = w.alloc (.cells #[I d0, I d1, I d2] 26)) := fun w => boxesZ_calls d0 d1 d2 w
  have HM : Hid (∀ w1, Below w.heap.size w w1 → Calls Try.prog 29 #[A3 d0 d1 d2, v] w1 fun e W' => e = .returned (.tuple #[M5 d0 d1 d2 (d0 * d1 * d2) v, I 0]) ∧ Below w1.heap.size w1 W') := fun w1 h1 => by
    refine (mach_calls d0 d1 d2 w1 (hv.later h1)).mono ?_
    rintro e w2 ⟨⟨_, rfl⟩ | ⟨h, _⟩, hB⟩
    · exact ⟨rfl, hB⟩
    · rw [hg] at h; cases h
  have HF : Hid (∀ (b : Bx) (w1 : World), b ∈ boxesZ d0 d1 d2 → Below w.heap.size w w1 → Calls Try.prog 30 #[M5 d0 d1 d2 (d0 * d1 * d2) v, B6 b] w1 fun e W' => e = .returned (.bool (clearX d0 d1 d2 ws b)) ∧ Below w1.heap.size w1 W') := fun b w1 hb h1 => isFree_calls w1 hd (boxesZ_may hd hb).1 (hv.later h1) he
  have HL : Hid ((boxesZ d0 d1 d2).length ≤ 262144 ∧ freeL d0 d1 d2 ws = (boxesZ d0 d1 d2).filter (clearX d0 d1 d2 ws)) := ⟨boxesZ_len hd hn, rfl⟩
  obtain ⟨ao, cap, rfl, _⟩ := hv.view
  have hbd := N_bd hd
  clear hd hv he hg
  generalize freeL d0 d1 d2 ws = FL at *
  generalize clearX d0 d1 d2 ws = q at *
  generalize boxesZ d0 d1 d2 = L at *
  generalize d0 * d1 * d2 = N at *
  generalize ws.length = n at *
  refine (callsIn_wide (n := 3)).1 ?_
  refine callsIn_of_wp_marks Try.func12 rfl trivial ?_ rfl
  simp only [Try.ntmps12, List.size_toArray, List.length_cons, List.length_nil, Nat.reduceAdd, Nat.reduceSub, Array.replicate_succ, Array.replicate_zero, List.push_toArray, List.append_toArray, List.nil_append, List.cons_append]
  have hB0 : Below w.heap.size w (w.alloc (.cells #[I d0, I d1, I d2] 26)) := (Below.refl _ w).alloc (Nat.le_refl _) _
  have k0 := Blk.new w 26 #[I d0, I d1, I d2]
  gi_wp2_with fail
  refine ⟨trivial, (callsIn_wide.2 (HM.out _ hB0)).mono ?_⟩
  rintro e w1 ⟨rfl, hT⟩
  have hB1 := then_below hB0 hT
  replace k0 := k0.later hT
  clear hT hB0 HM
  have hB2 : Below w1.heap.size w1 (w1.alloc (.cells #[I d0, I d1, I d2, I N, .slice ao n cap] 63)) := (Below.refl _ w1).alloc (Nat.le_refl _) _
  have km := Blk.new w1 63 #[I d0, I d1, I d2, I N, .slice ao n cap]
  have hB3 : Below w1.heap.size w1 ((w1.alloc (.cells #[I d0, I d1, I d2, I N, .slice ao n cap] 63)).alloc (.cells #[.slice none 0 0] 36)) := hB2.alloc (by simp) _
  obtain ⟨a0, a1, a2, az⟩ := k0.three (Below.refl _ _)
  have hng : ¬ (64 < N) := by omega
  gi_wp2_with fail
  refine ⟨trivial, (callsIn_wide.2 (HBx.out _)).mono ?_⟩
  rintro e w4 ⟨rfl, rfl⟩
  clear a0 a1 a2 az hng HBx
  obtain ⟨U, hU⟩ : ∃ U, U = (((w1.alloc (.cells #[I d0, I d1, I d2, I N, .slice ao n cap] 63)).alloc (.cells #[.slice none 0 0] 36)).alloc (.cells #[I d0, I d1, I d2] 26)) := ⟨_, rfl⟩
  have hbU : Below w1.heap.size w1 U := by
    rw [hU]
    exact (((Below.refl _ w1).alloc (Nat.le_refl _) _).alloc (by simp) _).alloc (by simp; omega) _
  have hTU : Below w.heap.size w U := then_below hB1 hbU
  have hsq := HSq.out (w1.heap.size + 1 + 1) U (by
      rw [hU]
      have := Blk.new ((w1.alloc (.cells #[I d0, I d1, I d2, I N, .slice ao n cap] 63)).alloc (.cells #[.slice none 0 0] 36)) 26 #[I d0, I d1, I d2]
      simpa using this)
  have kmU : Blk U w1.heap.size 63 #[I d0, I d1, I d2, I N, .slice ao n cap] := by
    rw [hU]
    exact (km.alloc _).alloc _
  have klU : Blk U (w1.heap.size + 1) 36 #[.slice none 0 0] := by
    rw [hU]
    have := (Blk.new (w1.alloc (.cells #[I d0, I d1, I d2, I N, .slice ao n cap] 63)) 36 #[.slice none 0 0]).alloc (.cells #[I d0, I d1, I d2] 26)
    simpa using this
  simp only [World.size_alloc]
  rw [← hU]
  have hpv : FrPv w (U.heap.size + 2) (w1.heap.size + 1) w1.heap.size #[I d0, I d1, I d2, I N, .slice ao n cap] (.slice none 0 0) [] U := ⟨hTU, Lx.nil _ _, klU, kmU⟩
  have HU : Hid (w.heap.size ≤ w1.heap.size ∧ w1.heap.size < w1.heap.size + 1 ∧ w1.heap.size + 1 < U.heap.size) := ⟨hB1.size, Nat.lt_succ_self _, klU.lt⟩
  clear hU hbU hTU kmU klU hB1 hB2 hB3 km k0 HSq
  generalize w1.heap.size + 1 + 1 = B3 at *
  generalize w1.heap.size + 1 = Bl at *
  generalize w1.heap.size = Bm at *
  clear w1
  gi_wp2_with fail
  refine wpIn_rangeOx rfl (enters_of Try.func58 (by kernel_rfl) rfl) hsq (Below.refl _ _) (fun _ => rfl)
    (fun pre V => ∃ v, FrPv w (U.heap.size + 2) Bl Bm #[I d0, I d1, I d2, I N, .slice ao n cap] v (pre.filter q) V) (fun _ _ _ => False)
    (fun pre A A' row hs hgr hr => by
      obtain ⟨v, h⟩ := hs
      exact ⟨v, h.grown hgr fun r e => ⟨by have := (hr r e).1; have := HU.out; omega, (hr r e).2⟩⟩)
    (fun _ _ _ _ _ hs _ _ => hs)
    ⟨_, hpv⟩
    (fun xx a' V => ∃ Bf, a' = { tmps := #[A3 d0 d1 d2, .slice ao n cap, .pointer (some ⟨w.heap.size, 0, none⟩), undef, .slice none 0 0, .int .i64 0, .pointer (some ⟨Bm, 0, none⟩), I 0, .pointer (some ⟨Bl, 0, none⟩), .pointer (some ⟨Bf, 0, none⟩), .tuple #[M5 d0 d1 d2 N (.slice ao n cap), I 0], .agg #[.int .i64 d0, .int .i64 d1, .int .i64 d2], .slice ao n cap, .tuple #[M5 d0 d1 d2 N (.slice ao n cap), I 0], M5 d0 d1 d2 N (.slice ao n cap), I 0, I 0, .bool false, undef, .pointer (some ⟨Bm, 3, none⟩), .int .i64 N, .bool (decide (64 < N)), .agg #[I d0, I d1, I d2], .func (.func 58) #[] #[.pointer (some ⟨B3, 0, none⟩)], B6 xx, undef, undef, undef, undef, undef, undef, undef, undef], defers := [] } ∧ Blk V Bf 32 (C6 xx))
    (fun xx a' _ A0 A1 row hs hgr hr => by
      obtain ⟨Bf, e, hb⟩ := hs
      exact ⟨Bf, e, hb.kept hgr (fun r e => (hr r e).2)⟩) ?assign ?body ?done ?stop
  case assign =>
    rintro l2 pre b V K2 hI hK2
    have hBa : Below V.heap.size V (V.alloc (.cells (C6 b) 32)) := (Below.refl _ V).alloc (Nat.le_refl _) _
    obtain ⟨v, hI⟩ := hI
    gi_wp2
    exact hK2 _ _ ((keeps_below hBa).from _) (KeepT.below _ hBa) ⟨v, hI.later hBa⟩ ⟨_, rfl, Blk.new _ _ _⟩
  case body =>
    rintro l2 pre b a' V hpre hl2 hlp ⟨v, pv⟩ ⟨Bf, rfl, kf⟩
    dsimp only at kf ⊢
    have hbase : U.heap.size + 2 ≤ V.heap.size := by
      obtain ⟨r0, hr0⟩ := hlp
      have := (Array.getElem?_eq_some_iff.1 hr0).1
      omega
    have hx : b ∈ L := hpre.subset (by simp)
    have hfl : (pre.filter q).length ≤ 1000000 := Nat.le_trans (List.length_filter_le _ _) (by
      have h1 := hpre.length_le
      have h2 := HL.out.1
      rw [List.length_append, List.length_singleton] at h1
      omega)
    have HH : Hid (Calls Try.prog 30 #[M5 d0 d1 d2 N (.slice ao n cap), B6 b] V fun e W' => e = .returned (.bool (q b)) ∧ Below V.heap.size V W') := HF.out b V hx pv.below
    have HF1 : Hid (q b = true → (pre ++ [b]).filter q = pre.filter q ++ [b]) := fun h => by simp [List.filter_append, h]
    have HF0 : Hid (q b = false → (pre ++ [b]).filter q = pre.filter q) := fun h => by simp [List.filter_append, h]
    obtain ⟨⟨j0, j1, j2, j3, j4⟩, _, l0⟩ := pv.m.row5G
    obtain ⟨g0, g1, g2, g3, g4, g5, gz⟩ := kf.sixX (Below.refl _ V)
    have HP : Hid (FrPv w (U.heap.size + 2) Bl Bm #[I d0, I d1, I d2, I N, .slice ao n cap] v (pre.filter q) V ∧ Blk V Bf 32 (C6 b)) := ⟨pv, kf⟩
    clear pv hpre hx kf hlp
    generalize pre.filter q = FP at *
    generalize q b = ans at *
    gi_wp2_with fail
    refine ⟨trivial, rfl, (CallsIn.inRound l2 (callsIn_wide.2 HH.out)).mono ?_⟩
    rintro e V2 ⟨rfl, hB2⟩
    have pv2 := HP.out.1.later hB2
    have kf2 := HP.out.2.later hB2
    have HM2 : Hid (Below V.heap.size V V2) := hB2
    have hb2 : U.heap.size + 2 ≤ V2.heap.size := Nat.le_trans hbase hB2.size
    clear j0 j1 j2 j3 j4 l0 g0 g1 g2 g3 g4 g5 gz hB2 HP HH
    cases ans
    · have HP2 : Hid (FrPv w (U.heap.size + 2) Bl Bm #[I d0, I d1, I d2, I N, .slice ao n cap] v ((pre ++ [b]).filter q) V2) := by rw [HF0.out (by trivial)]; exact pv2
      clear pv2 kf2
      gi_wp2
      exact ⟨(keeps_below HM2.out).from _, KeepT.below _ HM2.out, v, HP2.out⟩
    · have HP2 : Hid (FrPv w (U.heap.size + 2) Bl Bm #[I d0, I d1, I d2, I N, .slice ao n cap] v FP V2) := pv2
      have hLp := pv2.s
      have hbl := pv2.l
      have cl0 := hbl.cell 0
      have zl0 := hbl.lt
      simp at cl0
      obtain ⟨g0, g1, g2, g3, g4, g5, gz⟩ := kf2.sixX (Below.refl _ V2)
      clear pv2 kf2
      gi_wp2_with (gi_at_builtin; refine wpListIn_appX rfl _ _ rfl rfl rfl hLp hfl hb2 ?_; intro ao5 n5 cap5 w5 hL5 hB5 hg5; have hbl5 := hbl.grewX hLp hg5 (by decide); have c5 := hbl5.cell 0; have f5 := hbl5.frozen 0; have z5 := hbl5.lt; simp at c5)
      have hk5 : KeepsFrom U.heap.size V2 w5 := keepsFrom_grewX hLp hg5
      have ht5 : KeepT okG V2 w5 := KeepT.grown hg5 (fun r c t f e hc => by
        obtain ⟨_, cur, hcur⟩ := hLp.own e
        have := (show V2.heap[r]? = _ from hcur).symm.trans hc
        cases this
        rfl)
      have hend := HP2.out.app hg5 hL5 (by have := HU.out; omega) (by have := HU.out; omega) (by have := HU.out; omega)
      refine ⟨(((keeps_below HM2.out).from _).trans hk5).trans (keepsFrom_setCell _ (a := ⟨Bl, 0, none⟩) (by have := HU.out; show Bl < _; omega) _), ((KeepT.below okG HM2.out).trans ht5).trans (keepT_setCell hbl5 (by decide) _), .slice ao5 n5 cap5, ?_⟩
      rw [HF1.out (by trivial)]
      exact hend
  case done =>
    rintro Dm V hD ⟨v, pv⟩ hDV
    obtain ⟨ao8, cap8, rfl, _⟩ := pv.s.form
    have c8 := pv.l.cell 0
    have z8 := pv.l.lt
    simp at c8
    have HPv : Hid (Lx V (U.heap.size + 2) (.slice ao8 (L.filter q).length cap8) (L.filter q) ∧ Below w.heap.size w V ∧ V.heap[Dm]? = some (.deferred (some [])) ∧ w.heap.size ≤ Dm ∧ w.heap.size ≤ U.heap.size + 2) := ⟨pv.s, pv.below, hDV, by have := HU.out; omega, by have := HU.out; omega⟩
    clear pv hDV hD
    rw [← HL.out.2] at HPv c8
    generalize FL.length = n8 at *
    gi_wp2
    refine leaves_own (n := w.heap.size) (fun V' => Lx V' w.heap.size (.slice ao8 n8 cap8) FL ∧ Below w.heap.size w V') (fun _ A A' row hs hgr hr => ⟨hs.1.kept hgr (fun r e => (hr r e).2), hs.2.grown hgr hs.2.size (fun r e => (hr r e).1)⟩) [Dm] _ (by simp) (fun d hd => by rw [List.mem_singleton.1 hd]; exact ⟨HPv.out.2.2.2.1, HPv.out.2.2.1⟩) ⟨HPv.out.1.weak HPv.out.2.2.2.2, HPv.out.2.1⟩ (fun V' hV' _ => ?_)
    exact ⟨.tuple #[.slice ao8 n8 cap8, I 0], by simp [results, Try.f12, go_sem], _, rfl, hV'.1, hV'.2⟩
  case stop =>
    rintro D c pre V hD hpre h
    exact h.elim

set_option maxRecDepth 100000 in
set_option maxHeartbeats 4000000 in
theorem gfree_bad {d0 d1 d2 : Int} {v : Value} {ws : List Nat} (w : World) (hv : Wds w v ws) (hg : errG d0 d1 d2 ws ≠ 0) :
    Calls Try.prog 12 #[A3 d0 d1 d2, v] w fun e W' => e = .returned (.tuple #[.slice none 0 0, I 8]) ∧ Below w.heap.size w W' := by
  have HM : Hid (∀ w1, Below w.heap.size w w1 → Calls Try.prog 29 #[A3 d0 d1 d2, v] w1 fun e W' => e = .returned (.tuple #[M5 0 0 0 0 (.slice none 0 0), I 8]) ∧ Below w1.heap.size w1 W') := fun w1 h1 => by
    refine (mach_calls d0 d1 d2 w1 (hv.later h1)).mono ?_
    rintro e w2 ⟨⟨h, _⟩ | ⟨_, rfl⟩, hB⟩
    · exact absurd h hg
    · exact ⟨rfl, hB⟩
  obtain ⟨ao, cap, rfl, _⟩ := hv.view
  clear hv hg
  generalize ws.length = n at *
  refine (callsIn_wide (n := 3)).1 ?_
  refine callsIn_of_wp_marks Try.func12 rfl trivial ?_ rfl
  simp only [Try.ntmps12, List.size_toArray, List.length_cons, List.length_nil, Nat.reduceAdd, Nat.reduceSub, Array.replicate_succ, Array.replicate_zero, List.push_toArray, List.append_toArray, List.nil_append, List.cons_append]
  have hB0 : Below w.heap.size w (w.alloc (.cells #[I d0, I d1, I d2] 26)) := (Below.refl _ w).alloc (Nat.le_refl _) _
  gi_wp2_with fail
  refine ⟨trivial, (callsIn_wide.2 (HM.out _ hB0)).mono ?_⟩
  rintro e w1 ⟨rfl, hT⟩
  have HT : Hid (Below w.heap.size w (w1.alloc (.cells #[I 0, I 0, I 0, I 0, .slice none 0 0] 63))) := then_alloc (then_below hB0 hT) _
  clear hB0 hT HM
  gi_wp2
  exact ⟨.tuple #[.slice none 0 0, I 8], by simp [results, Try.f12, go_sem], rfl, HT.out⟩

set_option maxRecDepth 100000 in
set_option maxHeartbeats 4000000 in
theorem gfree_many {d0 d1 d2 : Int} {v : Value} {ws : List Nat} (w : World) (hv : Wds w v ws) (hg : errG d0 d1 d2 ws = 0) (hn : 64 < d0 * d1 * d2) :
    Calls Try.prog 12 #[A3 d0 d1 d2, v] w fun e W' => e = .returned (.tuple #[.slice none 0 0, I 4]) ∧ Below w.heap.size w W' := by
  have HM : Hid (∀ w1, Below w.heap.size w w1 → Calls Try.prog 29 #[A3 d0 d1 d2, v] w1 fun e W' => e = .returned (.tuple #[M5 d0 d1 d2 (d0 * d1 * d2) v, I 0]) ∧ Below w1.heap.size w1 W') := fun w1 h1 => by
    refine (mach_calls d0 d1 d2 w1 (hv.later h1)).mono ?_
    rintro e w2 ⟨⟨_, rfl⟩ | ⟨h, _⟩, hB⟩
    · exact ⟨rfl, hB⟩
    · rw [hg] at h; cases h
  obtain ⟨ao, cap, rfl, _⟩ := hv.view
  clear hv hg
  generalize d0 * d1 * d2 = N at *
  generalize ws.length = n at *
  refine (callsIn_wide (n := 3)).1 ?_
  refine callsIn_of_wp_marks Try.func12 rfl trivial ?_ rfl
  simp only [Try.ntmps12, List.size_toArray, List.length_cons, List.length_nil, Nat.reduceAdd, Nat.reduceSub, Array.replicate_succ, Array.replicate_zero, List.push_toArray, List.append_toArray, List.nil_append, List.cons_append]
  have hB0 : Below w.heap.size w (w.alloc (.cells #[I d0, I d1, I d2] 26)) := (Below.refl _ w).alloc (Nat.le_refl _) _
  gi_wp2_with fail
  refine ⟨trivial, (callsIn_wide.2 (HM.out _ hB0)).mono ?_⟩
  rintro e w1 ⟨rfl, hT⟩
  have HT : Hid (Below w.heap.size w (w1.alloc (.cells #[I d0, I d1, I d2, I N, .slice ao n cap] 63))) := then_alloc (then_below hB0 hT) _
  clear hB0 hT HM
  gi_wp2
  exact ⟨.tuple #[.slice none 0 0, I 4], by simp [results, Try.f12, go_sem], rfl, HT.out⟩

theorem gfree_calls {v : Value} {ws : List Nat} (d0 d1 d2 : Int) (w : World) (hv : Wds w v ws) :
    Calls Try.prog 12 #[A3 d0 d1 d2, v] w fun e W' => ∃ u, e = .returned (.tuple #[u, I (errF d0 d1 d2 ws)]) ∧ Lx W' w.heap.size u (freeV d0 d1 d2 ws) ∧ Below w.heap.size w W' := by
  rcases errG_cases d0 d1 d2 ws with ⟨hd, he, hr⟩ | h
  · by_cases hn : 64 < d0 * d1 * d2
    · have e1 : errF d0 d1 d2 ws = 4 := by simp [errF, hr, hn]
      refine (gfree_many w hv hr hn).mono ?_
      rintro e W' ⟨rfl, hB⟩
      exact ⟨_, by rw [e1], by unfold freeV; rw [e1]; exact Lx.nil _ _, hB⟩
    · have e1 : errF d0 d1 d2 ws = 0 := by simp [errF, hr, hn]
      refine (gfree_ok w hd hv he hr (by omega)).mono ?_
      rintro e W' ⟨u, rfl, hL, hB⟩
      exact ⟨_, by rw [e1], by unfold freeV; rw [e1]; exact hL, hB⟩
  · have hr : errG d0 d1 d2 ws = 8 := by rcases h with ⟨_, h⟩ | ⟨_, _, h⟩ <;> exact h
    have e1 : errF d0 d1 d2 ws = 8 := by simp [errF, hr]
    refine (gfree_bad w hv (by rw [hr]; decide)).mono ?_
    rintro e W' ⟨rfl, hB⟩
    exact ⟨_, by rw [e1], by unfold freeV; rw [e1]; exact Lx.nil _ _, hB⟩

end Go.Proofs.Ytjmfdpilmljppaa

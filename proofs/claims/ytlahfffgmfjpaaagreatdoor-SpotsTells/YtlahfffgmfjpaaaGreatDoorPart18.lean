/-
  (spots.judge).run: whether a run is free of two sets, asked of once.
-/
import Derived.Test.YtlahfffgmfjpaaaGreatDoorPart17
import Derived.Test.YtlahfffgmfjpaaaGreatDoorPart16
import Derived.RangeFuncNested
import Derived.RangeFuncLeaves
import Derived.RangeFuncWrites
import Derived.Test.YtlahfffgmfjpaaaGreatDoorPart3
import Derived.LoopNIn
import Derived.LoopIn
import Derived.TacticsInMore
import Derived.OwnWalkIn
import Derived.BigRegion
import Derived.Shelf.RegionOpenPlain
namespace Go.Proofs.YtlahfffgmfjpaaaGreatDoor
open Go Go.RowKit Go.Shelf Go.Maps

attribute [local go_sem] Oper.semAt_some ext_const

theorem MapBut.wds {g : Nat} {W W' : World} (h : MapBut g W W') {n : Nat} {D : DataW Unit} (hm : Jm W g n D) {v : Value} {ws : List Nat} (hw : Wds W v ws) : Wds W' v ws := by
  obtain ⟨h1, ao, cap, e, hv⟩ := hw
  refine ⟨h1, ao, cap, e, fun k hk => ?_⟩
  obtain ⟨b, off, ea, hb, hc⟩ := hv k hk
  refine ⟨b, off, ea, Nat.lt_of_lt_of_le hb h.size, ?_⟩
  obtain ⟨u, hu⟩ : ∃ u, (ws.map U)[k]? = some u := ⟨_, List.getElem?_eq_getElem (by simpa using hk)⟩
  rw [hu] at hc ⊢
  exact h.cell hm hc

theorem Jm.later {W W' : World} {g n : Nat} {D : DataW Unit} (h : Jm W g n D) (hb : Below W.heap.size W W') : Jm W' g n D := by
  have hlt := World.ownsMap.lt h
  obtain ⟨es, clock, e, r⟩ := h
  exact ⟨es, clock, (hb.block g hlt).trans e, r⟩

abbrev J6 (d0 d1 d2 : Int) (vm vl : Value) (g : Nat) : Value := .agg #[I d0, I d1, I d2, vm, vl, .map (some g)]
set_option maxRecDepth 100000 in
theorem zeroVd (w : World) : (zeroValue 123).run Tryz.prog w = .ok (.agg #[.bool false]) w := by kernel_rfl

set_option maxRecDepth 100000 in
/-- The comma-ok form at a map of verdicts. -/
theorem wpList_lookup_verd {ops : Array Oper} {rest : List Oper} {o : Oper} {a : Act} {w : World} {Q : Exit → Act → World → Prop} (hg : o.guard = none) (m x : Operand) (hop : o.op = Op.lookup 58 m x true)
    (b n : Nat) (D : DataW Unit) (hm : a.eval m = .map (some b)) (hown : Jm w b n D) (key : Value) (kl : Lit) (hx : a.eval x = key) (hkey : keyOf Tryz.prog 32 key = some kl)
    (hK : ∀ y : Bool, D.atKey kl zV = .agg [.lit (.bool y)] → wpList Tryz.prog ops Q rest (a.put o.dst (.tuple #[.agg #[.bool y], .bool (Maps.has D kl)])) w) :
    wpList Tryz.prog ops Q (o :: rest) a w :=
  wpList_lookup_own_ok w hg m x 58 hop 32 123 lawPl Tryz.underlying58 verdE (zeroVd _) zV [] (verdE_mk false) b n D hm hown key kl hx hkey (fun v ps hv => by
    obtain ⟨y, rfl, hc⟩ := verdE_inv hv
    exact hK y (congrArg Prod.fst hc))

set_option maxRecDepth 100000 in
set_option maxHeartbeats 4000000 in
theorem jrun_calls {d0 d1 d2 : Int} {mw lw : List Nat} {vm vl : Value} {g n : Nat} {D : DataW Unit} (w : World) (hd : mayD d0 d1 d2) (hw : mayW (d0 * d1 * d2).toNat mw lw = true) (hM : Wds w vm mw) (hL : Wds w vl lw) (hm : Jm w g n D) (hk : KnowsM d0 d1 d2 mw lw D) (hn : n < 1000000000) {b : Bx} {p q r : Bool} (hr : mayL d0 d1 d2 (b, p, q, r) = true) :
    Calls Tryz.prog 45 #[J6 d0 d1 d2 vm vl g, P9 b p q r] w fun e W' => e = .returned (.tuple #[.bool (wellL d0 d1 d2 mw lw (b, p, q, r)), I 0]) ∧ (∃ D', Jm W' g (n + 1) D' ∧ KnowsM d0 d1 d2 mw lw D') ∧ MapBut g w W' := by
  have hkey := key_pl hd hr
  obtain ⟨e1, e2⟩ := hold_may hd hr hw
  have HH : Hid (∀ w1, Wds w1 vm mw → Wds w1 vl lw → Calls Tryz.prog 73 #[A3 d0 d1 d2, P9 b p q r, vm, vl] w1 fun e W' => e = .returned (.tuple #[.bool (wellL d0 d1 d2 mw lw (b, p, q, r)), I 0]) ∧ Below w1.heap.size w1 W') := fun w1 h1 h2 => by
    have := holds_calls (a := d0) (b := d1) (c := d2) (bx := b) p q r w1 h1 h2
    rw [e1, e2] at this
    exact this
  have HK : Hid (KnowsM d0 d1 d2 mw lw D) := hk
  have HP : Hid (IsMap D → KnowsM d0 d1 d2 mw lw (D.put (keyPl (b, p, q, r)) (.agg [.lit (.bool (wellL d0 d1 d2 mw lw (b, p, q, r)))]))) := fun hD => knows_put hd hk hD hr
  have hyes : Maps.has D (keyPl (b, p, q, r)) = true → D.atKey (keyPl (b, p, q, r)) zV = .agg [.lit (.bool (wellL d0 d1 d2 mw lw (b, p, q, r)))] := fun h => hk _ hr h
  have HR : Hid (mayL d0 d1 d2 (b, p, q, r) = true) := hr
  obtain ⟨_, _, _, rfl⟩ := hM.form
  obtain ⟨_, _, _, rfl⟩ := hL.form
  rename_i am nm cm al nl cl
  obtain ⟨W, hW, hB0, k0, k1⟩ := two_start w #[I d0, I d1, I d2, .slice am nm cm, .slice al nl cl, .map (some g)] (C9 b p q r) 60 32
  have HW : Hid ((w.alloc (.cells #[I d0, I d1, I d2, .slice am nm cm, .slice al nl cl, .map (some g)] 60)).alloc (.cells (C9 b p q r) 32) = W) := hW
  have hmW : Jm ((w.alloc (.cells #[I d0, I d1, I d2, .slice am nm cm, .slice al nl cl, .map (some g)] 60)).alloc (.cells (C9 b p q r) 32)) g n D := (hm.alloc _).alloc _
  have hm0 : Jm W g n D := by rw [← hW]; exact hmW
  have HM0 : Hid (Wds W (.slice am nm cm) mw ∧ Wds W (.slice al nl cl) lw) := ⟨hM.later hB0, hL.later hB0⟩
  have hg : g < W.heap.size := hm0.lt
  have j0 := k0.cell 0; have j1 := k0.cell 1; have j2 := k0.cell 2; have j3 := k0.cell 3; have j4 := k0.cell 4; have j5 := k0.cell 5
  simp only [List.getElem?_toArray, List.getElem?_cons_zero, List.getElem?_cons_succ] at j0 j1 j2 j3 j4 j5
  have l0 := k0.lt
  obtain ⟨⟨b0, b1, b2⟩, ⟨b3, b4, b5⟩, ⟨b6, b7, b8⟩, l1⟩ := k1.nine (Below.refl _ W)
  have HN : Hid (∀ wx, Below W.heap.size W wx → (wx.cell? ⟨w.heap.size, 3, none⟩ = some (.slice am nm cm) ∧ wx.cell? ⟨w.heap.size, 5, none⟩ = some (.map (some g)) ∧ w.heap.size < wx.heap.size) ∧ (wx.cell? ⟨w.heap.size + 1, 0, none⟩ = some (I b.x) ∧ wx.cell? ⟨w.heap.size + 1, 1, none⟩ = some (I b.y) ∧ wx.cell? ⟨w.heap.size + 1, 2, none⟩ = some (I b.z)) ∧ (wx.cell? ⟨w.heap.size + 1, 3, none⟩ = some (I b.a) ∧ wx.cell? ⟨w.heap.size + 1, 4, none⟩ = some (I b.b) ∧ wx.cell? ⟨w.heap.size + 1, 5, none⟩ = some (I b.c)) ∧ (wx.cell? ⟨w.heap.size + 1, 6, none⟩ = some (.bool p) ∧ wx.cell? ⟨w.heap.size + 1, 7, none⟩ = some (.bool q) ∧ wx.cell? ⟨w.heap.size + 1, 8, none⟩ = some (.bool r)) ∧ w.heap.size + 1 < wx.heap.size) := fun wx hb => by
    have e3 := (k0.later hb).cell 3
    have e5 := (k0.later hb).cell 5
    exact ⟨⟨e3, e5, (k0.later hb).lt⟩, k1.nine hb⟩
  generalize wellL d0 d1 d2 mw lw (b, p, q, r) = ans at *
  generalize hkl : keyPl (b, p, q, r) = kl at *
  clear hk hr hd hw e1 e2 hM hL hkl hW k0 k1
  by_cases hh : Maps.has D kl = true
  · have hat := hyes hh
    have HF : Hid ((∃ D', Jm W g (n + 1) D' ∧ KnowsM d0 d1 d2 mw lw D') ∧ MapBut g w W) := ⟨⟨D, hm0.mono (Nat.le_succ _), HK.out⟩, MapBut.of_below hB0⟩
    have hB1 : Below W.heap.size W (W.alloc (.cells #[.bool ans] 123)) := (Below.refl _ W).alloc (Nat.le_refl _) _
    have hmo : Hid (Jm W g n D) := hm0
    clear hyes HP HR hm
    go_enter Tryz.func45, Tryz.ntmps45
    go_wp2_with (at_lookup; refine wpList_lookup_verd rfl _ _ rfl g n D rfl hmW _ _ rfl hkey ?_; intro y hy; rw [hat] at hy; obtain rfl : ans = y := (by simpa using hy); rw [hh]; clear hy; rw [HW.out])
    go_ret2
    exact ⟨rfl, ⟨D, (hmo.out.alloc _).mono (Nat.le_succ _), HK.out⟩, HF.out.2.trans (MapBut.of_below hB1)⟩
  · have hh : Maps.has D kl = false := by simpa using hh
    have HP1 : Hid (KnowsM d0 d1 d2 mw lw (D.put kl (.agg [.lit (.bool ans)]))) := HP.out (World.ownsMap.isMap hm0)
    have hB00 : Hid (Below w.heap.size w W) := hB0
    have HJ : Hid (Jm W g n D) := hm0
    clear hyes HP HR hm hB0 HK
    go_enter Tryz.func45, Tryz.ntmps45
    go_wp2_with (at_lookup; refine wpList_lookup_verd rfl _ _ rfl g n D rfl hmW _ _ rfl hkey ?_; intro y hy; clear hy; rw [hh, HW.out])
    have hT : Below W.heap.size W (W.alloc (.cells #[.bool y] 123)) := (Below.refl _ W).alloc (Nat.le_refl _) _
    have hwM := HM0.out.1.later hT
    have hwL := HM0.out.2.later hT
    refine (HH.out _ hwM hwL).mono ?_
    rintro e w1 ⟨rfl, hB⟩
    have hT1 : Below W.heap.size W w1 := then_below hT hB
    obtain ⟨⟨c3, c5, cz⟩, ⟨n0, n1, n2⟩, ⟨n3, n4, n5⟩, ⟨n6, n7, n8⟩, nz⟩ := HN.out w1 hT1
    have hm1 : Jm w1 g n D := Jm.later HJ.out hT1
    clear j0 j1 j2 j3 j4 j5 b0 b1 b2 b3 b4 b5 b6 b7 b8
    go_wp2_with (at_mapUpdate; refine wpList_mapUpdate_own _ rfl _ _ _ 58 rfl 32 123 lawPl Tryz.underlying58 verdE g n D rfl hm1 (by unfold maxLen; omega) _ _ _ rfl rfl hkey _ [] (verdE_mk ans) ?_; intro w2 hO2 hG2)
    go_ret2
    exact ⟨rfl, ⟨_, hO2, HP1.out⟩, ((MapBut.of_below hB00.out).trans (MapBut.of_below hT1)).trans (MapBut.of_grown hG2)⟩

end Go.Proofs.YtlahfffgmfjpaaaGreatDoor

/-
  A range over an iterator that hands out a list known ahead, where the iterator may itself range over another one: what the iterator promises (of whoever minds no turn of what is no cells and was laid since), the statement's law, and the way out of a function that holds some such statements.
-/
namespace Go.Proofs.YtlahfffgmfjpaaaGreatDoor
open Go Go.RowKit

section
variable {P : Program} {α : Type}

/-- Cells of such types lie as they lay. -/
def KeepT (ok : TypeId → Bool) (W W' : World) : Prop := W.heap.size ≤ W'.heap.size ∧ ∀ (k : Nat) (c : Array Value) (t : TypeId) (f : Nat × Nat), W.heap[k]? = some (.cells c t f) → ok t = true → W'.heap[k]? = some (.cells c t f)
theorem KeepT.refl (ok : TypeId → Bool) (W : World) : KeepT ok W W := ⟨Nat.le_refl _, fun _ _ _ _ h _ => h⟩
theorem KeepT.trans {ok : TypeId → Bool} {A B C : World} (h : KeepT ok A B) (k : KeepT ok B C) : KeepT ok A C := ⟨Nat.le_trans h.1 k.1, fun i c t f hi ht => k.2 i c t f (h.2 i c t f hi ht) ht⟩
theorem KeepT.putObj (ok : TypeId → Bool) {W : World} {l : Nat} {o : Obj} (o' : Obj) (hl : W.heap[l]? = some o) (ho : o.isCells = false) : KeepT ok W (W.putObj l o') :=
  ⟨by simp, fun k c t f hk _ => (World.putObj_heap_other (fun e => by subst e; rw [hk] at hl; cases hl; cases ho)).trans hk⟩
theorem KeepT.below (ok : TypeId → Bool) {W W' : World} (h : Below W.heap.size W W') : KeepT ok W W' := ⟨h.size, fun k _ _ _ hk _ => (h.block k (Array.getElem?_eq_some_iff.1 hk).1).trans hk⟩
/-- One block is turned, of another type (or no cells at all). -/
theorem KeepT.grown {ok : TypeId → Bool} {W W' : World} {row : Option Nat} (hg : W.grownBy W' row) (hr : ∀ r c t f, row = some r → W.heap[r]? = some (.cells c t f) → ok t = false) : KeepT ok W W' :=
  ⟨hg.size, fun k c t f hk ht => (hg.block k (Array.getElem?_eq_some_iff.1 hk).1 (fun e => by rw [hr k c t f e.symm hk] at ht; cases ht)).trans hk⟩

theorem keepsFrom_mono {B B' : Nat} {W W' : World} (h : KeepsFrom B W W') (hb : B ≤ B') : KeepsFrom B' W W' := ⟨h.size, fun k o hk h1 h2 => h.same k o (Nat.le_trans hb hk) h1 h2⟩
theorem keepsFrom_putObj {B l : Nat} (W : World) (o : Obj) (hl : l < B) : KeepsFrom B W (W.putObj l o) := ⟨by simp, fun k o' hk h1 _ => (World.putObj_heap_other (by omega)).trans h1⟩

/-- An iterator hands out L, one by one, to whatever loop, and stops where a round says so. -/
def SeqO (P : Program) (g : Nat) (lb : Array Value) (encs : α → Array Value) (ok : TypeId → Bool) (L : List α) (w : World) : Prop :=
  ∀ (l : Nat) (J Jx : List α → World → Prop) (W : World), Below w.heap.size w W → OwnFrom W.heap.size J → OwnFrom W.heap.size Jx →
    (∀ (pre : List α) (x : α) (W1 : World), pre ++ [x] <+: L → J pre W1 → YieldAt Fence.wide 0 P l (encs x) W1 fun e W' =>
      (e = .returned (.bool true) ∧ J (pre ++ [x]) W' ∧ KeepT ok W1 W' ∧ KeepsFrom W.heap.size W1 W') ∨ (e = .returned (.bool false) ∧ Jx (pre ++ [x]) W' ∧ KeepsFrom W.heap.size W1 W')) →
    J [] W →
    Calls P g (#[.func (.yield l) #[] #[]] ++ lb) W fun e W' => (∃ v, e = .returned v) ∧ (J L W' ∨ ∃ pre, pre <+: L ∧ Jx pre W')

theorem roundIn_any {n m : Nat} {l : Nat} {f : FuncId} {tmps : Array Value} {assign body : Code} {w : World} {R : Ending → World → Prop} (h : RoundIn Fence.wide n P l f tmps assign body w R) : RoundIn Fence.wide m P l f tmps assign body w R :=
  ⟨h.1, fun c cs _ => h.2 c cs (room_wide _)⟩
theorem SeqO.later {g : Nat} {lb : Array Value} {encs : α → Array Value} {ok : TypeId → Bool} {L : List α} {w w' : World} (h : SeqO P g lb encs ok L w) (hb : Below w.heap.size w w') : SeqO P g lb encs ok L w' :=
  fun l J Jx W hW => h l J Jx W (hb.trans (hW.mono hb.size))

/-- How a round's body may be left: those that have come, its own with them. -/
def postO (n : Nat) (ok : TypeId → Bool) (I : List α → World → Prop) (Ix : Code → List α → World → Prop) (pre : List α) (W : World) : Exit → Act → World → Prop
  | .normal, _, W' => KeepsFrom n W W' ∧ KeepT ok W W' ∧ I pre W'
  | .ret, _, W' => KeepsFrom n W W' ∧ Ix .ret pre W'
  | .exit id, _, W' => KeepsFrom n W W' ∧ Ix (.exit id) pre W'
  | .goto t, _, W' => KeepsFrom n W W' ∧ Ix (.goto t) pre W'
  | .panic _, _, _ => False
  | .outgrown, _, _ => False

theorem keeps_other {W W' : World} {row : Option Nat} (hg : W.grownBy W' row) {k : Nat} {o : Obj} (hk : W.heap[k]? = some o) (hr : row ≠ some k) : W'.heap[k]? = some o :=
  (hg.block k (Array.getElem?_eq_some_iff.1 hk).1 (fun e => hr e.symm)).trans hk

/-- The statement, outside of rounds; where its two blocks lie. -/
theorem wpIn_rangeOx {g : Operand} {ps : Array Tmp} {assign body : Code} {Q : Exit → Act → World → Prop} {a : Act} {w : World} {n : Nat}
    {gf : Nat} {lb : Array Value} (hg : a.eval g = .func (.func gf) #[] lb) (eg : ∀ args w, (callFunc gf args).run P w = .ok (.enter gf args) w)
    {encs : α → Array Value} {ok : TypeId → Bool} {L : List α} {w0 : World} (hseq : SeqO P gf lb encs ok L w0) (hb0 : Below w0.heap.size w0 w) (hps : ∀ x, (encs x).size = ps.size)
    (I : List α → World → Prop) (Ix : Code → List α → World → Prop) (hI : OwnFrom w.heap.size I) (hIx : ∀ c, OwnFrom w.heap.size (Ix c)) (h0 : I [] w) (Ax : α → Act → World → Prop) (hAx : ∀ x a', OwnFrom w.heap.size (fun (_ : Unit) W => Ax x a' W))
    (hassign : ∀ (l : Nat) (pre : List α) (x : α) (W : World) (K : Act → World → Prop), I pre W → (∀ a' W', KeepsFrom w.heap.size W W' → KeepT ok W W' → I pre W' → Ax x a' W' → K a' W') →
      assign.wpIn (Fence.wide.inRound l) 0 P (Exit.then K (fun _ _ _ => False)) { tmps := (ps.zip (encs x)).foldl (fun t (p, v) => t.setIfInBounds p v) a.tmps, defers := [] } W)
    (hbody : ∀ (l : Nat) (pre : List α) (x : α) (a' : Act) (W : World), pre ++ [x] <+: L → l = w.heap.size + 1 → (∃ r, W.heap[l]? = some (.loop r)) → I pre W → Ax x a' W → body.wpIn (Fence.wide.inRound l) 0 P (postO w.heap.size ok I Ix (pre ++ [x]) W) a' W)
    (hdone : ∀ (D : Nat) (W : World), D = w.heap.size → I L W → W.heap[D]? = some (.deferred (some [])) → Q .normal { a with defers := { target := .collected D, args := #[] } :: a.defers } W)
    (hstop : ∀ (D : Nat) (c : Code) (pre : List α) (W : World), D = w.heap.size → pre <+: L → Ix c pre W → W.heap[D]? = some (.deferred (some [])) → c.wpIn Fence.wide n P Q { a with defers := { target := .collected D, args := #[] } :: a.defers } W) :
    (Code.rangeFunc g ps assign body).wpIn Fence.wide n P Q a w := by
  refine wpIn_rangeFunc fun fn hfn => ?_
  -- the two blocks: D for the rounds' deferred calls, l the record
  obtain ⟨D, hD⟩ : ∃ D, D = w.heap.size := ⟨_, rfl⟩
  let rec' : LoopState → Option Code → Loop := fun st pe => { state := st, pending := pe, fn, tmps := a.tmps, params := ps, assign, body, defers := w.heap.size }
  let W1 : World := (w.alloc (.deferred (some []))).alloc (.loop (rec' .ready none))
  have s1 : W1.heap.size = w.heap.size + 2 := by simp [W1]
  have l1 : W1.heap[w.heap.size + 1]? = some (.loop (rec' .ready none)) := by
    have := World.alloc_heap_new (w.alloc (.deferred (some []))) (.loop (rec' .ready none))
    rwa [World.size_alloc] at this
  have d1 : W1.heap[w.heap.size]? = some (.deferred (some [])) := (Below.heap_alloc _ _ _ (by simp)).trans (World.alloc_heap_new w _)
  have b1 : Below w0.heap.size w0 W1 := hb0.trans ((((Below.refl _ w).alloc (Nat.le_refl _) _).alloc (by simp) _).mono hb0.size)
  -- what the loop keeps, with its two blocks
  let J : List α → World → Prop := fun k W => I k W ∧ W.heap[w.heap.size + 1]? = some (.loop (rec' .ready none)) ∧ W.heap[w.heap.size]? = some (.deferred (some []))
  let Jx : List α → World → Prop := fun k W => ∃ c, Ix c k W ∧ W.heap[w.heap.size + 1]? = some (.loop (rec' .done (some c))) ∧ W.heap[w.heap.size]? = some (.deferred (some []))
  have far : ∀ {A : World} {row : Option Nat}, (∀ r, row = some r → W1.heap.size ≤ r ∧ ∃ o : Obj, A.heap[r]? = some o ∧ o.isCells = false) → (∀ r, row = some r → w.heap.size ≤ r ∧ ∃ o : Obj, A.heap[r]? = some o ∧ o.isCells = false) ∧ row ≠ some (w.heap.size + 1) ∧ row ≠ some w.heap.size := fun hr =>
    ⟨fun r e => ⟨by have := (hr r e).1; omega, (hr r e).2⟩, fun e => by have := (hr _ e).1; omega, fun e => by have := (hr _ e).1; omega⟩
  have hJ : OwnFrom W1.heap.size J := fun s A A' row hs hgr hr => by
    obtain ⟨f1, f2, f3⟩ := far hr
    exact ⟨hI s A A' row hs.1 hgr f1, keeps_other hgr hs.2.1 f2, keeps_other hgr hs.2.2 f3⟩
  have hJx : OwnFrom W1.heap.size Jx := fun s A A' row hs hgr hr => by
    obtain ⟨f1, f2, f3⟩ := far hr
    obtain ⟨c, hc, h2, h3⟩ := hs
    exact ⟨c, hIx c s A A' row hc hgr f1, keeps_other hgr h2 f2, keeps_other hgr h3 f3⟩
  -- a round
  have hround : ∀ (pre : List α) (x : α) (W : World), pre ++ [x] <+: L → J pre W → YieldAt Fence.wide 0 P (w.heap.size + 1) (encs x) W fun e W' =>
      (e = .returned (.bool true) ∧ J (pre ++ [x]) W' ∧ KeepT ok W W' ∧ KeepsFrom W1.heap.size W W') ∨ (e = .returned (.bool false) ∧ Jx (pre ++ [x]) W' ∧ KeepsFrom W1.heap.size W W') := by
    rintro pre x W hk ⟨hi, hl, hd⟩
    refine ⟨fn, _, assign, body, run_yield hl (hps _), roundIn_of_wpIn hfn (hassign _ pre x W _ hi ?_)⟩
    intro a' V hkV hbV hiV hax
    have hl' := hkV.same _ _ (by omega) hl rfl
    have hd' := hkV.same _ _ (Nat.le_refl _) hd rfl
    have hsz : w.heap.size + 1 < V.heap.size := (Array.getElem?_eq_some_iff.1 hl').1
    refine ⟨_, run_beginRound hl' rfl, ?_⟩
    have hl2 : (V.putObj (w.heap.size + 1) (.loop (rec' .busy none))).heap[w.heap.size + 1]? = some (.loop (rec' .busy none)) := World.putObj_heap_same hsz
    have hd2 : (V.putObj (w.heap.size + 1) (.loop (rec' .busy none))).heap[w.heap.size]? = some (.deferred (some [])) := (World.putObj_heap_other (by omega)).trans hd'
    have hb2 : KeepT ok W (V.putObj (w.heap.size + 1) (.loop (rec' .busy none))) := hbV.trans (KeepT.putObj ok _ hl' rfl)
    have hk2 : KeepsFrom W1.heap.size W (V.putObj (w.heap.size + 1) (.loop (rec' .busy none))) := (keepsFrom_mono hkV (by omega)).trans (keepsFrom_putObj _ _ (by omega))
    refine wpIn_mono (hbody (w.heap.size + 1) pre x a' (V.putObj (w.heap.size + 1) (.loop (rec' .busy none))) hk rfl ⟨_, hl2⟩ (hI.putObj _ hiV (by omega) hl' rfl) ((hAx x a').putObj (s := ()) _ hax (by omega) hl' rfl)) ?_
    -- the round's end
    have fin : ∀ (jump : Option Code) (X : World), KeepsFrom w.heap.size (V.putObj (w.heap.size + 1) (.loop (rec' .busy none))) X →
        (Instr.endRound (w.heap.size + 1) jump).run P X = .ok (.bool jump.isNone) (X.putObj (w.heap.size + 1) (.loop (rec' (if jump.isNone then .ready else .done) jump))) ∧
        X.heap[w.heap.size + 1]? = some (.loop (rec' .busy none)) ∧
        (X.putObj (w.heap.size + 1) (.loop (rec' (if jump.isNone then .ready else .done) jump))).heap[w.heap.size + 1]? = some (.loop (rec' (if jump.isNone then .ready else .done) jump)) ∧
        (X.putObj (w.heap.size + 1) (.loop (rec' (if jump.isNone then .ready else .done) jump))).heap[w.heap.size]? = some (.deferred (some [])) := fun jump X hX => by
      have h3 := hX.same _ _ (by omega) hl2 rfl
      exact ⟨run_endRound jump h3, h3, World.putObj_heap_same (Array.getElem?_eq_some_iff.1 h3).1, (World.putObj_heap_other (by omega)).trans (hX.same _ _ (Nat.le_refl _) hd2 rfl)⟩
    have stop : ∀ (c : Code) (X : World), KeepsFrom w.heap.size (V.putObj (w.heap.size + 1) (.loop (rec' .busy none))) X → Ix c (pre ++ [x]) X →
        ∃ (v : Value) (Y : World), (Instr.endRound (w.heap.size + 1) (some c)).run P X = .ok v Y ∧ ((Ending.returned v = .returned (.bool true) ∧ J (pre ++ [x]) Y ∧ KeepT ok W Y ∧ KeepsFrom W1.heap.size W Y) ∨ (Ending.returned v = .returned (.bool false) ∧ Jx (pre ++ [x]) Y ∧ KeepsFrom W1.heap.size W Y)) := fun c X hX hc => by
      obtain ⟨hr, h3, h4, h5⟩ := fin (some c) X hX
      exact ⟨_, _, hr, .inr ⟨rfl, ⟨c, (hIx c).putObj _ hc (by omega) h3 rfl, h4, h5⟩, (hk2.trans (keepsFrom_mono hX (by omega))).trans (keepsFrom_putObj _ _ (by omega))⟩⟩
    rintro e a3 X hp
    cases e with
    | normal =>
      obtain ⟨hX, hbX, hiX⟩ := hp
      obtain ⟨hr, h3, h4, h5⟩ := fin none X hX
      exact ⟨_, _, hr, .inl ⟨rfl, ⟨hI.putObj _ hiX (by omega) h3 rfl, h4, h5⟩, (hb2.trans hbX).trans (KeepT.putObj ok _ h3 rfl), (hk2.trans (keepsFrom_mono hX (by omega))).trans (keepsFrom_putObj _ _ (by omega))⟩⟩
    | ret => exact stop .ret X hp.1 hp.2
    | exit id => exact stop (.exit id) X hp.1 hp.2
    | goto t => exact stop (.goto t) X hp.1 hp.2
    | panic ch => exact hp.elim
    | outgrown => exact hp.elim
  refine ⟨w.heap.size + 1, [{ target := .collected w.heap.size, args := #[] }], W1, { target := .fn (.func gf) lb, args := #[.func (.yield (w.heap.size + 1)) #[] #[]] }, W1, gf, #[.func (.yield (w.heap.size + 1)) #[] #[]] ++ lb, W1,
    run_enterLoop_outer _ _ _ _ _, by simp only [resolve, hg]; simp [go_sem], fun f' _ => trivial, by simp [invoke, go_sem, eg], fun h => by simp [Fence.wide] at h, ?_⟩
  refine (callsIn_wide.2 (hseq (w.heap.size + 1) J Jx W1 b1 hJ hJx hround ⟨hI.alloc _ (hI.alloc _ h0), l1, d1⟩)).mono ?_
  rintro e W2 ⟨⟨v, rfl⟩, (⟨hi, hl, hd⟩ | ⟨k, hk, c, hi, hl, hd⟩)⟩
  · exact ⟨none, _, run_endLoop hl (by simp [rec']), hdone _ _ rfl (hI.putObj _ hi (by omega) hl rfl) ((World.putObj_heap_other (by omega)).trans hd)⟩
  · exact ⟨some c, _, run_endLoop hl (by simp [rec']), hstop _ c k _ rfl hk ((hIx c).putObj _ hi (by omega) hl rfl) ((World.putObj_heap_other (by omega)).trans hd)⟩

/-- The statement, outside of rounds. -/
theorem wpIn_rangeO {g : Operand} {ps : Array Tmp} {assign body : Code} {Q : Exit → Act → World → Prop} {a : Act} {w : World} {n : Nat}
    {gf : Nat} {lb : Array Value} (hg : a.eval g = .func (.func gf) #[] lb) (eg : ∀ args w, (callFunc gf args).run P w = .ok (.enter gf args) w)
    {encs : α → Array Value} {ok : TypeId → Bool} {L : List α} {w0 : World} (hseq : SeqO P gf lb encs ok L w0) (hb0 : Below w0.heap.size w0 w) (hps : ∀ x, (encs x).size = ps.size)
    (I : List α → World → Prop) (Ix : Code → List α → World → Prop) (hI : OwnFrom w.heap.size I) (hIx : ∀ c, OwnFrom w.heap.size (Ix c)) (h0 : I [] w) (Ax : α → Act → World → Prop) (hAx : ∀ x a', OwnFrom w.heap.size (fun (_ : Unit) W => Ax x a' W))
    (hassign : ∀ (l : Nat) (pre : List α) (x : α) (W : World) (K : Act → World → Prop), I pre W → (∀ a' W', KeepsFrom w.heap.size W W' → KeepT ok W W' → I pre W' → Ax x a' W' → K a' W') →
      assign.wpIn (Fence.wide.inRound l) 0 P (Exit.then K (fun _ _ _ => False)) { tmps := (ps.zip (encs x)).foldl (fun t (p, v) => t.setIfInBounds p v) a.tmps, defers := [] } W)
    (hbody : ∀ (l : Nat) (pre : List α) (x : α) (a' : Act) (W : World), pre ++ [x] <+: L → w.heap.size ≤ l → (∃ r, W.heap[l]? = some (.loop r)) → I pre W → Ax x a' W → body.wpIn (Fence.wide.inRound l) 0 P (postO w.heap.size ok I Ix (pre ++ [x]) W) a' W)
    (hdone : ∀ (D : Nat) (W : World), w.heap.size ≤ D → I L W → W.heap[D]? = some (.deferred (some [])) → Q .normal { a with defers := { target := .collected D, args := #[] } :: a.defers } W)
    (hstop : ∀ (D : Nat) (c : Code) (pre : List α) (W : World), w.heap.size ≤ D → pre <+: L → Ix c pre W → W.heap[D]? = some (.deferred (some [])) → c.wpIn Fence.wide n P Q { a with defers := { target := .collected D, args := #[] } :: a.defers } W) :
    (Code.rangeFunc g ps assign body).wpIn Fence.wide n P Q a w :=
  wpIn_rangeOx hg eg hseq hb0 hps I Ix hI hIx h0 Ax hAx hassign (fun l pre x a' W h1 h2 h3 h4 h5 => hbody l pre x a' W h1 (by omega) h3 h4 h5) (fun D W h1 => hdone D W (by omega)) (fun D c pre W h1 => hstop D c pre W (by omega))

theorem own_below {β : Type} {B : Nat} {J : β → World → Prop} (hJ : OwnFrom B J) {s : β} {W W' : World} (h : J s W) (hb : Below W.heap.size W W') : J s W' :=
  hJ s W W' none h ⟨hb.os, hb.tape, hb.output, hb.size, fun k hk _ => hb.block k hk⟩ (fun r e => by cases e)

/-! ### the way out -/
/-- What minds no shutting of the marks' blocks stands behind the way out. -/
theorem leaves_own {fn : Func} {tmps : Array Value} {R : Ending → World → Prop} {n m : Nat} (K : World → Prop) (hK : OwnFrom n (fun (_ : Unit) W => K W)) : ∀ (bs : List Nat) (W : World), bs.Nodup → (∀ b ∈ bs, n ≤ b ∧ W.heap[b]? = some (.deferred (some []))) → K W →
    (∀ W', K W' → Below n W W' → LeavesIn Fence.wide m P fn tmps R [] .returning W') → LeavesInM Fence.wide m P fn tmps R (bs.map fun b => { target := .collected b, args := #[] }) .returning W
  | [], W, _, _, hk, h => h W hk (Below.refl _ _)
  | b :: bs, W, hnd, hb, hk, h => by
    obtain ⟨hn, hD⟩ := hb b (by simp)
    have hnd' := List.nodup_cons.1 hnd
    refine ⟨by simp, .inl ⟨b, _, rfl, run_takeDeferred hD, leaves_own (n := n) K hK bs _ hnd'.2 (fun b' hm => ?_) (hK.putObj (s := ()) _ hk hn hD rfl) fun W' hk' hW' => h W' hk' ?_⟩⟩
    · have hne : b' ≠ b := fun e => hnd'.1 (e ▸ hm)
      exact ⟨(hb b' (by simp [hm])).1, (World.putObj_heap_other hne).trans (hb b' (by simp [hm])).2⟩
    · exact (show Below n W (W.putObj b (.deferred none)) from ⟨rfl, rfl, rfl, by simp, fun k hk => World.putObj_heap_other (by omega)⟩).trans hW'

end
end Go.Proofs.YtlahfffgmfjpaaaGreatDoor

/-
  spots.offsets hands out how far each midplane of a box lies from its base; spots.onward: coordinates so far on.
-/
namespace Go.Proofs.YtlahfffgmfjpaaaGreatDoor
open Go Go.RowKit Go.Shelf

attribute [local go_sem] Oper.semAt_some ext_const

/-! ### prefixes -/
theorem pre_append {α : Type} {a b c : List α} (h : b <+: c) : a ++ b <+: a ++ c := (List.prefix_append_right_inj a).2 h
theorem range_pre {k n : Nat} (h : k ≤ n) : List.range k <+: List.range n := by
  obtain ⟨m, rfl⟩ : ∃ m, n = k + m := ⟨n - k, by omega⟩
  rw [List.range_add]
  exact List.prefix_append _ _
theorem flat_pre {α β : Type} {a b : List α} (f : α → List β) (h : a <+: b) : a.flatMap f <+: b.flatMap f := by
  obtain ⟨t, rfl⟩ := h
  rw [List.flatMap_append]
  exact List.prefix_append _ _
theorem map_pre {α β : Type} {a b : List α} (f : α → β) (h : a <+: b) : a.map f <+: b.map f := by
  obtain ⟨t, rfl⟩ := h
  rw [List.map_append]
  exact List.prefix_append _ _
theorem filter_pre {α : Type} {a b : List α} (f : α → Bool) (h : a <+: b) : a.filter f <+: b.filter f := by
  obtain ⟨t, rfl⟩ := h
  rw [List.filter_append]
  exact List.prefix_append _ _

def rowO (y z : Nat) (j : Nat) : List Tri := (List.range j).map fun (x : Nat) => ((x : Int), (y : Int), (z : Int))
def planeO (a z i : Nat) : List Tri := (List.range i).flatMap fun (y : Nat) => rowO y z a
def cubeO (a b k : Nat) : List Tri := (List.range k).flatMap fun (z : Nat) => planeO a z b
theorem row_succ (y z j : Nat) : rowO y z (j + 1) = rowO y z j ++ [((j : Int), (y : Int), (z : Int))] := by simp [rowO, List.range_succ]
theorem plane_succ (a z i : Nat) : planeO a z (i + 1) = planeO a z i ++ rowO i z a := by simp [planeO, List.range_succ]
theorem cube_succ (a b k : Nat) : cubeO a b (k + 1) = cubeO a b k ++ planeO a k b := by simp [cubeO, List.range_succ]
/-- The one at x, y, z is the next. -/
theorem offs_next {a b c k i j : Nat} (hk : k < c) (hi : i < b) (hj : j < a) : (cubeO a b k ++ (planeO a k i ++ rowO i k j)) ++ [((j : Int), (i : Int), (k : Int))] <+: offsL a b c := by
  rw [List.append_assoc, List.append_assoc, ← row_succ]
  have h1 : rowO i k (j + 1) <+: rowO i k a := map_pre _ (range_pre hj)
  have h2 : planeO a k (i + 1) <+: planeO a k b := flat_pre _ (range_pre hi)
  have h3 : cubeO a b (k + 1) <+: cubeO a b c := flat_pre _ (range_pre hk)
  rw [plane_succ] at h2
  rw [cube_succ] at h3
  exact ((pre_append ((pre_append h1).trans h2)).trans h3)

theorem KeepT.blk {ok : TypeId → Bool} {W W' : World} {B : Nat} {t : TypeId} {vs : Array Value} (h : KeepT ok W W') (hB : Blk W B t vs) (ht : ok t = true) : Blk W' B t vs := h.2 B vs t _ hB ht

set_option maxRecDepth 100000 in
theorem offsets_calls (a b c : Int) (w : World) : Calls Tryz.prog 71 #[A3 a b c] w fun e W' => e = .returned (.func (.func 96) #[] #[.pointer (some ⟨w.heap.size, 0, none⟩)]) ∧ W' = w.alloc (.cells #[I a, I b, I c] 22) := by
  go_enter Tryz.func71, Tryz.ntmps71
  go_wp2
  go_ret
  exact ⟨rfl, rfl⟩

abbrev encT (t : Tri) : Array Value := #[A3 t.1 t.2.1 t.2.2]
abbrev okAll : TypeId → Bool := fun _ => true

set_option maxRecDepth 100000 in
set_option maxHeartbeats 4000000 in
/-- What spots.offsets hands back, as a range over it asks. -/
theorem offsets_seq {a b c : Nat} (ok : TypeId → Bool) (hok : ok 22 = true) {Bo : Nat} (w : World) (hB : Blk w Bo 22 #[I a, I b, I c]) (ha : a ≤ 16) (hb : b ≤ 16) (hc : c ≤ 16) :
    SeqO Tryz.prog 96 #[.pointer (some ⟨Bo, 0, none⟩)] encT ok (offsL a b c) w := fun l J Jx W hW hJ hJx hY h0 => by
  have HY : Hid (∀ (pre : List Tri) (x : Tri) (W1 : World), pre ++ [x] <+: offsL a b c → J pre W1 → YieldAt Fence.wide 0 Tryz.prog l (encT x) W1 fun e W' => (e = .returned (.bool true) ∧ J (pre ++ [x]) W' ∧ KeepT ok W1 W' ∧ KeepsFrom W.heap.size W1 W') ∨ (e = .returned (.bool false) ∧ Jx (pre ++ [x]) W' ∧ KeepsFrom W.heap.size W1 W')) := hY
  have hB0 := hB.later hW
  have HO : Hid (ok 22 = true) := hok
  have HN : Hid (∀ k i j : Nat, k < c → i < b → j < a → (cubeO a b k ++ (planeO a k i ++ rowO i k j)) ++ [((j : Int), (i : Int), (k : Int))] <+: offsL a b c) := fun k i j h1 h2 h3 => offs_next h1 h2 h3
  have HE : Hid (cubeO a b c = offsL a b c) := rfl
  clear hY hB hok hJ hJx
  generalize offsL a b c = L at *
  refine (callsIn_wide (n := 3)).1 ?_
  refine callsIn_of_wp Tryz.func96 rfl trivial ?_ rfl
  simp only [Tryz.ntmps96, List.size_toArray, List.length_cons, List.length_nil, Nat.reduceAdd, Nat.reduceSub, Array.replicate_succ, Array.replicate_zero, List.push_toArray, List.append_toArray, List.nil_append, List.cons_append]
  obtain ⟨c0, c1, c2, hz⟩ := hB0.three (Below.refl _ _)
  gi_wp2
  gi_loopw [8] (fun i wr => ∃ (k : Nat), k ≤ c ∧ i = .int .i64 k ∧ J (cubeO a b k) wr ∧ Blk wr Bo 22 #[I a, I b, I c]) (fun i _ => c - (RowKit.intOf i).toNat)
  case atStart => exact ⟨0, by omega, rfl, h0, hB0⟩
  case round =>
    clear c0 c1 c2 hz h0 hB0
    obtain ⟨k, hk, rfl, hJ1, hB1⟩ := hrel
    by_cases hltk : (k : Int) < (c : Int)
    · obtain ⟨c0, c1, c2, hz⟩ := hB1.three (Below.refl _ _)
      have hJ1' : Hid (J (cubeO a b k ++ (planeO a k 0)) wr) := by show J _ _; simpa [planeO] using hJ1
      clear hJ1
      gi_wp2
      gi_loopw [13] (fun i wr2 => ∃ (m : Nat), m ≤ b ∧ i = .int .i64 m ∧ Hid (J (cubeO a b k ++ planeO a k m) wr2) ∧ Blk wr2 Bo 22 #[I a, I b, I c]) (fun i _ => b - (RowKit.intOf i).toNat)
      case atStart => exact ⟨0, by omega, rfl, hJ1', hB1⟩
      case round =>
        clear c0 c1 c2 hz hJ1' hB1
        rename World => wr2
        obtain ⟨m, hm, rfl, hJ2, hB2⟩ := hrel
        by_cases hltm : (m : Int) < (b : Int)
        · obtain ⟨c0, c1, c2, hz⟩ := hB2.three (Below.refl _ _)
          have hJ2' : Hid (J (cubeO a b k ++ (planeO a k m ++ rowO m k 0)) wr2) := by show J _ _; simpa [rowO] using hJ2.out
          clear hJ2
          gi_wp2
          gi_loopw [18] (fun i wr3 => ∃ (n : Nat), n ≤ a ∧ i = .int .i64 n ∧ Hid (J (cubeO a b k ++ (planeO a k m ++ rowO m k n)) wr3) ∧ Blk wr3 Bo 22 #[I a, I b, I c]) (fun i _ => a - (RowKit.intOf i).toNat)
          case atStart => exact ⟨0, by omega, rfl, hJ2', hB2⟩
          case round =>
            clear c0 c1 c2 hz hJ2' hB2
            rename World => wr3
            obtain ⟨n, hn, rfl, hJ3, hB3⟩ := hrel
            by_cases hltn : (n : Int) < (a : Int)
            · obtain ⟨f1, t1, as1, bo1, hy1, hR1⟩ := HY.out _ ((n : Int), (m : Int), (k : Int)) wr3 (HN.out k m n (by omega) (by omega) (by omega)) hJ3.out
              have hR1 := roundIn_any (m := 3 - 1) hR1
              clear hJ3
              gi_wp2
              refine hR1.mono ?_
              rintro e W3 (⟨rfl, hJ4, hk3, _⟩ | ⟨rfl, hJx3, _⟩)
              · have hJ4' : Hid (J (cubeO a b k ++ (planeO a k m ++ rowO m k (n + 1))) W3) := by show J _ _; rw [row_succ]; simpa using hJ4
                have hB4 := hk3.blk hB3 HO.out
                clear hJ4 hk3 hB3
                gi_wp2
                go_roundw
                case rel => exact ⟨n + 1, by omega, by go_num, hJ4', hB4⟩
                case measure => simp [RowKit.intOf]; omega
              · gi_wp2
                refine bodyPost_ret (results_none rfl _ _ _) rfl ?_
                exact ⟨⟨_, rfl⟩, .inr ⟨_, HN.out k m n (by omega) (by omega) (by omega), hJx3⟩⟩
            · obtain rfl : n = a := by omega
              have hJ4 : Hid (J (cubeO n b k ++ planeO n k (m + 1)) wr3) := by show J _ _; rw [plane_succ]; exact hJ3.out
              clear hJ3
              gi_wp2
              go_roundw
              case rel => exact ⟨m + 1, by omega, by go_num, hJ4, hB3⟩
              case measure => simp [RowKit.intOf]; omega
        · obtain rfl : m = b := by omega
          have hJ3 : J (cubeO a m (k + 1)) wr2 := by rw [cube_succ]; exact hJ2.out
          clear hJ2
          gi_wp2
          go_roundw
          case rel => exact ⟨k + 1, by omega, by go_num, hJ3, hB2⟩
          case measure => simp [RowKit.intOf]; omega
    · obtain rfl : k = c := by omega
      have HF : Hid (J L wr) := by show J _ _; rw [← HE.out]; exact hJ1
      clear hJ1
      gi_wp2
      go_end0
      exact ⟨⟨_, rfl⟩, .inl HF.out⟩

end Go.Proofs.YtlahfffgmfjpaaaGreatDoor

/-
  spots.onward: coordinates so far on from others, round and round.
-/
namespace Go.Proofs.YtlahfffgmfjpaaaGreatDoor
open Go Go.RowKit Go.Shelf

attribute [local go_sem] Oper.semAt_some ext_const

theorem ixI0 (x y z : Value) (w : World) : (Instr.index 22 (.agg #[x, y, z]) (.int .i64 0)).run Tryz.prog w = .ok x w := by kernel_rfl
theorem ixI1 (x y z : Value) (w : World) : (Instr.index 22 (.agg #[x, y, z]) (.int .i64 1)).run Tryz.prog w = .ok y w := by kernel_rfl
theorem ixI2 (x y z : Value) (w : World) : (Instr.index 22 (.agg #[x, y, z]) (.int .i64 2)).run Tryz.prog w = .ok z w := by kernel_rfl
attribute [local go_sem] ixI0 ixI1 ixI2

set_option maxRecDepth 100000 in
set_option maxHeartbeats 4000000 in
theorem onward_calls {d0 d1 d2 x y z a b c : Int} (w : World) (hd : mayD d0 d1 d2) (hx : inD d0 d1 d2 x y z) (ho : inD d0 d1 d2 a b c) :
    Calls Tryz.prog 72 #[A3 d0 d1 d2, A3 x y z, A3 a b c] w fun e W' => e = .returned (A3 (ringO d0 x a) (ringO d1 y b) (ringO d2 z c)) ∧ Below w.heap.size w W' := by
  have mixed : Tryz.prog.follows .mixedOrders = true := by kernel_rfl
  obtain ⟨⟨l0, u0⟩, ⟨l1, u1⟩, l2, u2⟩ := hd
  obtain ⟨⟨x0, x1⟩, ⟨y0, y1⟩, z0, z1⟩ := hx
  obtain ⟨⟨a0, a1⟩, ⟨b0, b1⟩, c0, c1⟩ := ho
  have e0 : (x + a).tmod d0 = ringO d0 x a := Int.tmod_eq_emod_of_nonneg (by omega)
  have e1 : (y + b).tmod d1 = ringO d1 y b := Int.tmod_eq_emod_of_nonneg (by omega)
  have e2 : (z + c).tmod d2 = ringO d2 z c := Int.tmod_eq_emod_of_nonneg (by omega)
  have n0 : (d0 == 0) = false := by simp; omega
  have n1 : (d1 == 0) = false := by simp; omega
  have n2 : (d2 == 0) = false := by simp; omega
  generalize ringO d0 x a = r0 at *
  generalize ringO d1 y b = r1 at *
  generalize ringO d2 z c = r2 at *
  go_enter Tryz.func72, Tryz.ntmps72
  go_wp2
  refine wp_loop_rounds 4 ?_
  rw [rounds_succ]
  go_wp2_with fail
  go_big_region_o
  go_wp2
  rw [rounds_succ]
  go_wp2_with fail
  go_big_region_o
  go_wp2
  rw [rounds_succ]
  go_wp2_with fail
  go_big_region_o
  go_wp2
  rw [rounds_succ]
  go_wp2
  have hB := ((((Below.refl w.heap.size w).alloc (Nat.le_refl _) (.cells #[I d0, I d1, I d2] 23)).alloc (by simp) (.cells #[I r0, I r1, I r2] 22)).alloc (by simp; omega) (.cells #[I a, I b, I c] 22)).alloc (by simp; omega) (.cells #[I r0, I r1, I r2] 22)
  exact bodyPost_ret (v := A3 r0 r1 r2) (by simp [results, Tryz.f72, go_sem]) rfl ⟨rfl, hB.drew.drew.drew⟩

end Go.Proofs.YtlahfffgmfjpaaaGreatDoor

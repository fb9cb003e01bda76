/-
  A range over an iterator that hands out a list known ahead, where the iterator may itself range over another one: what the iterator promises (of whoever minds no turn of what is no cells and was laid since), the statement's law, and the way out of a function that holds some such statements.
-/
import Derived.RangeFuncNested
import Derived.RangeFuncLeaves
import Derived.RangeFuncWrites
import Derived.RangeFuncBound
import Derived.RangeFuncCalls
import Derived.Shelf.Abstract
import Derived.Shelf.RegionOpen
import Derived.WalkKit
import Derived.OwnWalkIn
import Derived.TacticsInMore
import Derived.LoopNIn
import Derived.LoopIn
namespace Go.Proofs.YtbedhpooeabehaaGreatDoor
open Go Go.RowKit

section
variable {P : Program} {α : Type}

/-- Cells of such types lie as they lay. -/
def KeepT (ok : TypeId → Bool) (W W' : World) : Prop := W.heap.size ≤ W'.heap.size ∧ ∀ (k : Nat) (c : Array Value) (t : TypeId) (f : Nat × Nat), W.heap[k]? = some (.cells c t f) → ok t = true → W'.heap[k]? = some (.cells c t f)
theorem KeepT.refl (ok : TypeId → Bool) (W : World) : KeepT ok W W := ⟨Nat.le_refl _, fun _ _ _ _ h _ => h⟩
theorem KeepT.trans {ok : TypeId → Bool} {A B C : World} (h : KeepT ok A B) (k : KeepT ok B C) : KeepT ok A C := ⟨Nat.le_trans h.1 k.1, fun i c t f hi ht => k.2 i c t f (h.2 i c t f hi ht) ht⟩
theorem KeepT.putObj (ok : TypeId → Bool) {W : World} {l : Nat} {o : Obj} (o' : Obj) (hl : W.heap[l]? = some o) (ho : o.isCells = false) : KeepT ok W (W.putObj l o') :=
  ⟨by simp, fun k c t f hk _ => (World.putObj_heap_other (fun e => by subst e; rw [hk] at hl; cases hl; cases ho)).trans hk⟩
theorem KeepT.below (ok : TypeId → Bool) {W W' : World} (h : Below W.heap.size W W') : KeepT ok W W' := ⟨h.size, fun k _ _ _ hk _ => (h.block k (Array.getElem?_eq_some_iff.1 hk).1).trans hk⟩
/-- One block is turned, of another type (or no cells at all). -/
theorem KeepT.grown {ok : TypeId → Bool} {W W' : World} {row : Option Nat} (hg : W.grownBy W' row) (hr : ∀ r c t f, row = some r → W.heap[r]? = some (.cells c t f) → ok t = false) : KeepT ok W W' :=
  ⟨hg.size, fun k c t f hk ht => (hg.block k (Array.getElem?_eq_some_iff.1 hk).1 (fun e => by rw [hr k c t f e.symm hk] at ht; cases ht)).trans hk⟩

theorem keepsFrom_mono {B B' : Nat} {W W' : World} (h : KeepsFrom B W W') (hb : B ≤ B') : KeepsFrom B' W W' := ⟨h.size, fun k o hk h1 h2 => h.same k o (Nat.le_trans hb hk) h1 h2⟩
theorem keepsFrom_putObj {B l : Nat} (W : World) (o : Obj) (hl : l < B) : KeepsFrom B W (W.putObj l o) := ⟨by simp, fun k o' hk h1 _ => (World.putObj_heap_other (by omega)).trans h1⟩

/-- An iterator hands out L, one by one, to whatever loop, and stops where a round says so. -/
def SeqO (P : Program) (g : Nat) (lb : Array Value) (encs : α → Array Value) (ok : TypeId → Bool) (L : List α) (w : World) : Prop :=
  ∀ (l : Nat) (J Jx : List α → World → Prop) (W : World), Below w.heap.size w W → OwnFrom W.heap.size J → OwnFrom W.heap.size Jx →
    (∀ (pre : List α) (x : α) (W1 : World), pre ++ [x] <+: L → J pre W1 → YieldAt Fence.wide 0 P l (encs x) W1 fun e W' =>
      (e = .returned (.bool true) ∧ J (pre ++ [x]) W' ∧ KeepT ok W1 W' ∧ KeepsFrom W.heap.size W1 W') ∨ (e = .returned (.bool false) ∧ Jx (pre ++ [x]) W' ∧ KeepsFrom W.heap.size W1 W')) →
    J [] W →
    Calls P g (#[.func (.yield l) #[] #[]] ++ lb) W fun e W' => (∃ v, e = .returned v) ∧ (J L W' ∨ ∃ pre, pre <+: L ∧ Jx pre W')

theorem roundIn_any {n m : Nat} {l : Nat} {f : FuncId} {tmps : Array Value} {assign body : Code} {w : World} {R : Ending → World → Prop} (h : RoundIn Fence.wide n P l f tmps assign body w R) : RoundIn Fence.wide m P l f tmps assign body w R :=
  ⟨h.1, fun c cs _ => h.2 c cs (room_wide _)⟩
theorem yieldAt_any {n m : Nat} {l : Nat} {args : Array Value} {W : World} {R : Ending → World → Prop} (h : YieldAt Fence.wide n P l args W R) : YieldAt Fence.wide m P l args W R := by
  obtain ⟨fn, tmps, assign, body, hy, hR⟩ := h
  exact ⟨fn, tmps, assign, body, hy, roundIn_any hR⟩
theorem SeqO.later {g : Nat} {lb : Array Value} {encs : α → Array Value} {ok : TypeId → Bool} {L : List α} {w w' : World} (h : SeqO P g lb encs ok L w) (hb : Below w.heap.size w w') : SeqO P g lb encs ok L w' :=
  fun l J Jx W hW => h l J Jx W (hb.trans (hW.mono hb.size))

/-- How a round's body may be left: those that have come, its own with them. -/
def postO (n : Nat) (ok : TypeId → Bool) (I : List α → World → Prop) (Ix : Code → List α → World → Prop) (pre : List α) (W : World) : Exit → Act → World → Prop
  | .normal, _, W' => KeepsFrom n W W' ∧ KeepT ok W W' ∧ I pre W'
  | .ret, _, W' => KeepsFrom n W W' ∧ Ix .ret pre W'
  | .exit id, _, W' => KeepsFrom n W W' ∧ Ix (.exit id) pre W'
  | .goto t, _, W' => KeepsFrom n W W' ∧ Ix (.goto t) pre W'
  | .panic _, _, _ => False
  | .outgrown, _, _ => False

theorem keeps_other {W W' : World} {row : Option Nat} (hg : W.grownBy W' row) {k : Nat} {o : Obj} (hk : W.heap[k]? = some o) (hr : row ≠ some k) : W'.heap[k]? = some o :=
  (hg.block k (Array.getElem?_eq_some_iff.1 hk).1 (fun e => hr e.symm)).trans hk

/-- The statement, outside of rounds; where its two blocks lie. -/
theorem wpIn_rangeOx {g : Operand} {ps : Array Tmp} {assign body : Code} {Q : Exit → Act → World → Prop} {a : Act} {w : World} {n : Nat}
    {gf : Nat} {lb : Array Value} (hg : a.eval g = .func (.func gf) #[] lb) (eg : ∀ args w, (callFunc gf args).run P w = .ok (.enter gf args) w)
    {encs : α → Array Value} {ok : TypeId → Bool} {L : List α} {w0 : World} (hseq : SeqO P gf lb encs ok L w0) (hb0 : Below w0.heap.size w0 w) (hps : ∀ x, (encs x).size = ps.size)
    (I : List α → World → Prop) (Ix : Code → List α → World → Prop) (hI : OwnFrom w.heap.size I) (hIx : ∀ c, OwnFrom w.heap.size (Ix c)) (h0 : I [] w) (Ax : α → Act → World → Prop) (hAx : ∀ x a', OwnFrom w.heap.size (fun (_ : Unit) W => Ax x a' W))
    (hassign : ∀ (l : Nat) (pre : List α) (x : α) (W : World) (K : Act → World → Prop), I pre W → (∀ a' W', KeepsFrom w.heap.size W W' → KeepT ok W W' → I pre W' → Ax x a' W' → K a' W') →
      assign.wpIn (Fence.wide.inRound l) 0 P (Exit.then K (fun _ _ _ => False)) { tmps := (ps.zip (encs x)).foldl (fun t (p, v) => t.setIfInBounds p v) a.tmps, defers := [] } W)
    (hbody : ∀ (l : Nat) (pre : List α) (x : α) (a' : Act) (W : World), pre ++ [x] <+: L → l = w.heap.size + 1 → (∃ r, W.heap[l]? = some (.loop r)) → I pre W → Ax x a' W → body.wpIn (Fence.wide.inRound l) 0 P (postO w.heap.size ok I Ix (pre ++ [x]) W) a' W)
    (hdone : ∀ (D : Nat) (W : World), D = w.heap.size → I L W → W.heap[D]? = some (.deferred (some [])) → Q .normal { a with defers := { target := .collected D, args := #[] } :: a.defers } W)
    (hstop : ∀ (D : Nat) (c : Code) (pre : List α) (W : World), D = w.heap.size → pre <+: L → Ix c pre W → W.heap[D]? = some (.deferred (some [])) → c.wpIn Fence.wide n P Q { a with defers := { target := .collected D, args := #[] } :: a.defers } W) :
    (Code.rangeFunc g ps assign body).wpIn Fence.wide n P Q a w := by
  refine wpIn_rangeFunc fun fn hfn => ?_
  -- the two blocks: D for the rounds' deferred calls, l the record
  obtain ⟨D, hD⟩ : ∃ D, D = w.heap.size := ⟨_, rfl⟩
  let rec' : LoopState → Option Code → Loop := fun st pe => { state := st, pending := pe, fn, tmps := a.tmps, params := ps, assign, body, defers := w.heap.size }
  let W1 : World := (w.alloc (.deferred (some []))).alloc (.loop (rec' .ready none))
  have s1 : W1.heap.size = w.heap.size + 2 := by simp [W1]
  have l1 : W1.heap[w.heap.size + 1]? = some (.loop (rec' .ready none)) := by
    have := World.alloc_heap_new (w.alloc (.deferred (some []))) (.loop (rec' .ready none))
    rwa [World.size_alloc] at this
  have d1 : W1.heap[w.heap.size]? = some (.deferred (some [])) := (Below.heap_alloc _ _ _ (by simp)).trans (World.alloc_heap_new w _)
  have b1 : Below w0.heap.size w0 W1 := hb0.trans ((((Below.refl _ w).alloc (Nat.le_refl _) _).alloc (by simp) _).mono hb0.size)
  -- what the loop keeps, with its two blocks
  let J : List α → World → Prop := fun k W => I k W ∧ W.heap[w.heap.size + 1]? = some (.loop (rec' .ready none)) ∧ W.heap[w.heap.size]? = some (.deferred (some []))
  let Jx : List α → World → Prop := fun k W => ∃ c, Ix c k W ∧ W.heap[w.heap.size + 1]? = some (.loop (rec' .done (some c))) ∧ W.heap[w.heap.size]? = some (.deferred (some []))
  have far : ∀ {A : World} {row : Option Nat}, (∀ r, row = some r → W1.heap.size ≤ r ∧ ∃ o : Obj, A.heap[r]? = some o ∧ o.isCells = false) → (∀ r, row = some r → w.heap.size ≤ r ∧ ∃ o : Obj, A.heap[r]? = some o ∧ o.isCells = false) ∧ row ≠ some (w.heap.size + 1) ∧ row ≠ some w.heap.size := fun hr =>
    ⟨fun r e => ⟨by have := (hr r e).1; omega, (hr r e).2⟩, fun e => by have := (hr _ e).1; omega, fun e => by have := (hr _ e).1; omega⟩
  have hJ : OwnFrom W1.heap.size J := fun s A A' row hs hgr hr => by
    obtain ⟨f1, f2, f3⟩ := far hr
    exact ⟨hI s A A' row hs.1 hgr f1, keeps_other hgr hs.2.1 f2, keeps_other hgr hs.2.2 f3⟩
  have hJx : OwnFrom W1.heap.size Jx := fun s A A' row hs hgr hr => by
    obtain ⟨f1, f2, f3⟩ := far hr
    obtain ⟨c, hc, h2, h3⟩ := hs
    exact ⟨c, hIx c s A A' row hc hgr f1, keeps_other hgr h2 f2, keeps_other hgr h3 f3⟩
  -- a round
  have hround : ∀ (pre : List α) (x : α) (W : World), pre ++ [x] <+: L → J pre W → YieldAt Fence.wide 0 P (w.heap.size + 1) (encs x) W fun e W' =>
      (e = .returned (.bool true) ∧ J (pre ++ [x]) W' ∧ KeepT ok W W' ∧ KeepsFrom W1.heap.size W W') ∨ (e = .returned (.bool false) ∧ Jx (pre ++ [x]) W' ∧ KeepsFrom W1.heap.size W W') := by
    rintro pre x W hk ⟨hi, hl, hd⟩
    refine ⟨fn, _, assign, body, run_yield hl (hps _), roundIn_of_wpIn hfn (hassign _ pre x W _ hi ?_)⟩
    intro a' V hkV hbV hiV hax
    have hl' := hkV.same _ _ (by omega) hl rfl
    have hd' := hkV.same _ _ (Nat.le_refl _) hd rfl
    have hsz : w.heap.size + 1 < V.heap.size := (Array.getElem?_eq_some_iff.1 hl').1
    refine ⟨_, run_beginRound hl' rfl, ?_⟩
    have hl2 : (V.putObj (w.heap.size + 1) (.loop (rec' .busy none))).heap[w.heap.size + 1]? = some (.loop (rec' .busy none)) := World.putObj_heap_same hsz
    have hd2 : (V.putObj (w.heap.size + 1) (.loop (rec' .busy none))).heap[w.heap.size]? = some (.deferred (some [])) := (World.putObj_heap_other (by omega)).trans hd'
    have hb2 : KeepT ok W (V.putObj (w.heap.size + 1) (.loop (rec' .busy none))) := hbV.trans (KeepT.putObj ok _ hl' rfl)
    have hk2 : KeepsFrom W1.heap.size W (V.putObj (w.heap.size + 1) (.loop (rec' .busy none))) := (keepsFrom_mono hkV (by omega)).trans (keepsFrom_putObj _ _ (by omega))
    refine wpIn_mono (hbody (w.heap.size + 1) pre x a' (V.putObj (w.heap.size + 1) (.loop (rec' .busy none))) hk rfl ⟨_, hl2⟩ (hI.putObj _ hiV (by omega) hl' rfl) ((hAx x a').putObj (s := ()) _ hax (by omega) hl' rfl)) ?_
    -- the round's end
    have fin : ∀ (jump : Option Code) (X : World), KeepsFrom w.heap.size (V.putObj (w.heap.size + 1) (.loop (rec' .busy none))) X →
        (Instr.endRound (w.heap.size + 1) jump).run P X = .ok (.bool jump.isNone) (X.putObj (w.heap.size + 1) (.loop (rec' (if jump.isNone then .ready else .done) jump))) ∧
        X.heap[w.heap.size + 1]? = some (.loop (rec' .busy none)) ∧
        (X.putObj (w.heap.size + 1) (.loop (rec' (if jump.isNone then .ready else .done) jump))).heap[w.heap.size + 1]? = some (.loop (rec' (if jump.isNone then .ready else .done) jump)) ∧
        (X.putObj (w.heap.size + 1) (.loop (rec' (if jump.isNone then .ready else .done) jump))).heap[w.heap.size]? = some (.deferred (some [])) := fun jump X hX => by
      have h3 := hX.same _ _ (by omega) hl2 rfl
      exact ⟨run_endRound jump h3, h3, World.putObj_heap_same (Array.getElem?_eq_some_iff.1 h3).1, (World.putObj_heap_other (by omega)).trans (hX.same _ _ (Nat.le_refl _) hd2 rfl)⟩
    have stop : ∀ (c : Code) (X : World), KeepsFrom w.heap.size (V.putObj (w.heap.size + 1) (.loop (rec' .busy none))) X → Ix c (pre ++ [x]) X →
        ∃ (v : Value) (Y : World), (Instr.endRound (w.heap.size + 1) (some c)).run P X = .ok v Y ∧ ((Ending.returned v = .returned (.bool true) ∧ J (pre ++ [x]) Y ∧ KeepT ok W Y ∧ KeepsFrom W1.heap.size W Y) ∨ (Ending.returned v = .returned (.bool false) ∧ Jx (pre ++ [x]) Y ∧ KeepsFrom W1.heap.size W Y)) := fun c X hX hc => by
      obtain ⟨hr, h3, h4, h5⟩ := fin (some c) X hX
      exact ⟨_, _, hr, .inr ⟨rfl, ⟨c, (hIx c).putObj _ hc (by omega) h3 rfl, h4, h5⟩, (hk2.trans (keepsFrom_mono hX (by omega))).trans (keepsFrom_putObj _ _ (by omega))⟩⟩
    rintro e a3 X hp
    cases e with
    | normal =>
      obtain ⟨hX, hbX, hiX⟩ := hp
      obtain ⟨hr, h3, h4, h5⟩ := fin none X hX
      exact ⟨_, _, hr, .inl ⟨rfl, ⟨hI.putObj _ hiX (by omega) h3 rfl, h4, h5⟩, (hb2.trans hbX).trans (KeepT.putObj ok _ h3 rfl), (hk2.trans (keepsFrom_mono hX (by omega))).trans (keepsFrom_putObj _ _ (by omega))⟩⟩
    | ret => exact stop .ret X hp.1 hp.2
    | exit id => exact stop (.exit id) X hp.1 hp.2
    | goto t => exact stop (.goto t) X hp.1 hp.2
    | panic ch => exact hp.elim
    | outgrown => exact hp.elim
  refine ⟨w.heap.size + 1, [{ target := .collected w.heap.size, args := #[] }], W1, { target := .fn (.func gf) lb, args := #[.func (.yield (w.heap.size + 1)) #[] #[]] }, W1, gf, #[.func (.yield (w.heap.size + 1)) #[] #[]] ++ lb, W1,
    run_enterLoop_outer _ _ _ _ _, by simp only [resolve, hg]; simp [go_sem], fun f' _ => trivial, by simp [invoke, go_sem, eg], fun h => by simp [Fence.wide] at h, ?_⟩
  refine (callsIn_wide.2 (hseq (w.heap.size + 1) J Jx W1 b1 hJ hJx hround ⟨hI.alloc _ (hI.alloc _ h0), l1, d1⟩)).mono ?_
  rintro e W2 ⟨⟨v, rfl⟩, (⟨hi, hl, hd⟩ | ⟨k, hk, c, hi, hl, hd⟩)⟩
  · exact ⟨none, _, run_endLoop hl (by simp [rec']), hdone _ _ rfl (hI.putObj _ hi (by omega) hl rfl) ((World.putObj_heap_other (by omega)).trans hd)⟩
  · exact ⟨some c, _, run_endLoop hl (by simp [rec']), hstop _ c k _ rfl hk ((hIx c).putObj _ hi (by omega) hl rfl) ((World.putObj_heap_other (by omega)).trans hd)⟩

/-- The statement, outside of rounds. -/
theorem wpIn_rangeO {g : Operand} {ps : Array Tmp} {assign body : Code} {Q : Exit → Act → World → Prop} {a : Act} {w : World} {n : Nat}
    {gf : Nat} {lb : Array Value} (hg : a.eval g = .func (.func gf) #[] lb) (eg : ∀ args w, (callFunc gf args).run P w = .ok (.enter gf args) w)
    {encs : α → Array Value} {ok : TypeId → Bool} {L : List α} {w0 : World} (hseq : SeqO P gf lb encs ok L w0) (hb0 : Below w0.heap.size w0 w) (hps : ∀ x, (encs x).size = ps.size)
    (I : List α → World → Prop) (Ix : Code → List α → World → Prop) (hI : OwnFrom w.heap.size I) (hIx : ∀ c, OwnFrom w.heap.size (Ix c)) (h0 : I [] w) (Ax : α → Act → World → Prop) (hAx : ∀ x a', OwnFrom w.heap.size (fun (_ : Unit) W => Ax x a' W))
    (hassign : ∀ (l : Nat) (pre : List α) (x : α) (W : World) (K : Act → World → Prop), I pre W → (∀ a' W', KeepsFrom w.heap.size W W' → KeepT ok W W' → I pre W' → Ax x a' W' → K a' W') →
      assign.wpIn (Fence.wide.inRound l) 0 P (Exit.then K (fun _ _ _ => False)) { tmps := (ps.zip (encs x)).foldl (fun t (p, v) => t.setIfInBounds p v) a.tmps, defers := [] } W)
    (hbody : ∀ (l : Nat) (pre : List α) (x : α) (a' : Act) (W : World), pre ++ [x] <+: L → w.heap.size ≤ l → (∃ r, W.heap[l]? = some (.loop r)) → I pre W → Ax x a' W → body.wpIn (Fence.wide.inRound l) 0 P (postO w.heap.size ok I Ix (pre ++ [x]) W) a' W)
    (hdone : ∀ (D : Nat) (W : World), w.heap.size ≤ D → I L W → W.heap[D]? = some (.deferred (some [])) → Q .normal { a with defers := { target := .collected D, args := #[] } :: a.defers } W)
    (hstop : ∀ (D : Nat) (c : Code) (pre : List α) (W : World), w.heap.size ≤ D → pre <+: L → Ix c pre W → W.heap[D]? = some (.deferred (some [])) → c.wpIn Fence.wide n P Q { a with defers := { target := .collected D, args := #[] } :: a.defers } W) :
    (Code.rangeFunc g ps assign body).wpIn Fence.wide n P Q a w :=
  wpIn_rangeOx hg eg hseq hb0 hps I Ix hI hIx h0 Ax hAx hassign (fun l pre x a' W h1 h2 h3 h4 h5 => hbody l pre x a' W h1 (by omega) h3 h4 h5) (fun D W h1 => hdone D W (by omega)) (fun D c pre W h1 => hstop D c pre W (by omega))

theorem own_below {β : Type} {B : Nat} {J : β → World → Prop} (hJ : OwnFrom B J) {s : β} {W W' : World} (h : J s W) (hb : Below W.heap.size W W') : J s W' :=
  hJ s W W' none h ⟨hb.os, hb.tape, hb.output, hb.size, fun k hk _ => hb.block k hk⟩ (fun r e => by cases e)

/-! ### the way out -/
/-- What minds no shutting of the marks' blocks stands behind the way out. -/
theorem leaves_own {fn : Func} {tmps : Array Value} {R : Ending → World → Prop} {n m : Nat} (K : World → Prop) (hK : OwnFrom n (fun (_ : Unit) W => K W)) : ∀ (bs : List Nat) (W : World), bs.Nodup → (∀ b ∈ bs, n ≤ b ∧ W.heap[b]? = some (.deferred (some []))) → K W →
    (∀ W', K W' → Below n W W' → LeavesIn Fence.wide m P fn tmps R [] .returning W') → LeavesInM Fence.wide m P fn tmps R (bs.map fun b => { target := .collected b, args := #[] }) .returning W
  | [], W, _, _, hk, h => h W hk (Below.refl _ _)
  | b :: bs, W, hnd, hb, hk, h => by
    obtain ⟨hn, hD⟩ := hb b (by simp)
    have hnd' := List.nodup_cons.1 hnd
    refine ⟨by simp, .inl ⟨b, _, rfl, run_takeDeferred hD, leaves_own (n := n) K hK bs _ hnd'.2 (fun b' hm => ?_) (hK.putObj (s := ()) _ hk hn hD rfl) fun W' hk' hW' => h W' hk' ?_⟩⟩
    · have hne : b' ≠ b := fun e => hnd'.1 (e ▸ hm)
      exact ⟨(hb b' (by simp [hm])).1, (World.putObj_heap_other hne).trans (hb b' (by simp [hm])).2⟩
    · exact (show Below n W (W.putObj b (.deferred none)) from ⟨rfl, rfl, rfl, by simp, fun k hk => World.putObj_heap_other (by omega)⟩).trans hW'

end
end Go.Proofs.YtbedhpooeabehaaGreatDoor

/-
  Small laws on blocks of memory that the walks of this seat share: a block that holds known cells keeps them behind what a call or a loop does elsewhere.
-/
namespace Go.Proofs.YtbedhpooeabehaaGreatDoor
open Go.RowKit Go.Shelf

abbrev I (n : Int) : Value := .int .i64 n
abbrev A3 (a b c : Int) : Value := .agg #[.int .i64 a, .int .i64 b, .int .i64 c]

/-- Block B of W holds just the cells vs, of type t, none of them frozen. -/
def Blk (W : World) (B : Nat) (t : TypeId) (vs : Array Value) : Prop := W.heap[B]? = some (.cells vs t (0, 0))

theorem Blk.lt {W : World} {B : Nat} {t : TypeId} {vs : Array Value} (h : Blk W B t vs) : B < W.heap.size := (Array.getElem?_eq_some_iff.1 h).1
theorem Blk.cell {W : World} {B : Nat} {t : TypeId} {vs : Array Value} (h : Blk W B t vs) (i : Nat) : W.cell? ⟨B, i, none⟩ = vs[i]? := by
  simp [World.cell?, show W.heap[B]? = _ from h]
theorem Blk.frozen {W : World} {B : Nat} {t : TypeId} {vs : Array Value} (h : Blk W B t vs) (i : Nat) : W.frozen? ⟨B, i, none⟩ = false := by
  simp [World.frozen?, show W.heap[B]? = _ from h]
theorem Blk.new (W : World) (t : TypeId) (vs : Array Value) : Blk (W.alloc (.cells vs t)) W.heap.size t vs := World.alloc_heap_new W _
theorem Blk.alloc {W : World} {B : Nat} {t : TypeId} {vs : Array Value} (h : Blk W B t vs) (o : Obj) : Blk (W.alloc o) B t vs :=
  (Below.heap_alloc W o B h.lt).trans h
theorem Blk.drew {W : World} {B : Nat} {t : TypeId} {vs : Array Value} (h : Blk W B t vs) : Blk W.drew B t vs := h
theorem Blk.below {W W' : World} {B n : Nat} {t : TypeId} {vs : Array Value} (h : Blk W B t vs) (hb : Below n W W') (hn : B < n) : Blk W' B t vs :=
  (hb.block B hn).trans h
theorem Blk.later {W W' : World} {B : Nat} {t : TypeId} {vs : Array Value} (h : Blk W B t vs) (hb : Below W.heap.size W W') : Blk W' B t vs :=
  h.below hb h.lt
theorem Blk.set {W : World} {B : Nat} {t : TypeId} {vs : Array Value} (h : Blk W B t vs) (i : Nat) (v : Value) : Blk (W.setCell ⟨B, i, none⟩ v) B t (vs.setIfInBounds i v) := by
  obtain ⟨hlt, hk⟩ := Array.getElem?_eq_some_iff.1 h
  show (W.heap.modify B _)[B]? = _
  rw [Array.getElem?_eq_getElem (by rw [Array.size_modify]; exact hlt), Array.getElem_modify_self, hk]
  simp
theorem Blk.other {W : World} {B B' : Nat} {t : TypeId} {vs : Array Value} (h : Blk W B t vs) (i : Nat) (v : Value) (hne : B ≠ B') : Blk (W.setCell ⟨B', i, none⟩ v) B t vs :=
  (Below.heap_setCell W ⟨B', i, none⟩ v B hne).trans h
theorem Blk.kept {W W' : World} {row : Option Nat} {B : Nat} {t : TypeId} {vs : Array Value} (h : Blk W B t vs) (hg : W.grownBy W' row) (hrow : ∀ r, row = some r → ∃ o : Obj, W.heap[r]? = some o ∧ o.isCells = false) : Blk W' B t vs :=
  (grownBy_keeps_cells hg hrow h rfl).trans h
theorem Blk.putObj {W : World} {B D : Nat} {t : TypeId} {vs : Array Value} (h : Blk W B t vs) {o : Obj} (o' : Obj) (hD : W.heap[D]? = some o) (ho : o.isCells = false) : Blk (W.putObj D o') B t vs :=
  h.kept (grownBy_putObj' W D o') (fun r e => by cases e; exact ⟨o, hD, ho⟩)

theorem blk_own {β : Type} (B : Nat) (t : TypeId) (f : β → Array Value) : Own (fun s W => Blk W B t (f s)) :=
  fun _ _ _ _ hs hg hr => Blk.kept hs hg hr
theorem own_and {β : Type} {X Y : β → World → Prop} (h : Own X) (k : Own Y) : Own (fun s W => X s W ∧ Y s W) :=
  fun s W W' row hs hg hr => ⟨h s W W' row hs.1 hg hr, k s W W' row hs.2 hg hr⟩
theorem own_pure {β : Type} (X : β → Prop) : Own (fun s (_ : World) => X s) := fun _ _ _ _ hs _ _ => hs

theorem below_put {w W : World} {D : Nat} {o : Obj} (o' : Obj) (hB : Below w.heap.size w W) (hD : w.heap.size ≤ D) (_hK : W.heap[D]? = some o) : Below w.heap.size w (W.putObj D o') :=
  hB.grown (grownBy_putObj' W D o') hB.size (fun k e => by cases e; exact hD)

theorem then_below {w a b : World} (h : Below w.heap.size w a) (k : Below a.heap.size a b) : Below w.heap.size w b := h.trans (k.mono h.size)
theorem then_alloc {w a : World} (h : Below w.heap.size w a) (o : Obj) : Below w.heap.size w (a.alloc o) := h.alloc h.size o
theorem wrap_in (n : Int) (h : -4611686018427387904 ≤ n ∧ n ≤ 4611686018427387904) : wrap64 n = n := by unfold wrap64; omega

theorem two_start (w : World) (u0 u1 : Array Value) (t0 t1 : TypeId) :
    ∃ W : World, (w.alloc (.cells u0 t0)).alloc (.cells u1 t1) = W ∧ Below w.heap.size w W ∧ Blk W w.heap.size t0 u0 ∧ Blk W (w.heap.size + 1) t1 u1 := by
  refine ⟨_, rfl, ((Below.refl _ w).alloc (Nat.le_refl _) _).alloc (by simp) _, ?_, ?_⟩
  · exact (Blk.new w t0 u0).alloc _
  · have := Blk.new (w.alloc (.cells u0 t0)) t1 u1; simpa using this

/-- What a later world has in a block of three numbers. -/
theorem Blk.three {W W' : World} {B : Nat} {t : TypeId} {a b c : Int} (h : Blk W B t #[I a, I b, I c]) (hb : Below W.heap.size W W') :
    W'.cell? ⟨B, 0, none⟩ = some (I a) ∧ W'.cell? ⟨B, 1, none⟩ = some (I b) ∧ W'.cell? ⟨B, 2, none⟩ = some (I c) ∧ B < W'.heap.size :=
  ⟨(h.later hb).cell 0, (h.later hb).cell 1, (h.later hb).cell 2, (h.later hb).lt⟩

theorem Blk.set3 {W : World} {B : Nat} {t : TypeId} {x y z : Value} (h : Blk W B t #[x, y, z]) (a b c : Value) :
    Blk (((W.setCell ⟨B, 0, none⟩ a).setCell ⟨B, 1, none⟩ b).setCell ⟨B, 2, none⟩ c) B t #[a, b, c] := ((h.set 0 a).set 1 b).set 2 c
theorem below_set3 {n : Nat} {w W : World} {B : Nat} (h : Below n w W) (hn : n ≤ B) (a b c : Value) :
    Below n w (((W.setCell ⟨B, 0, none⟩ a).setCell ⟨B, 1, none⟩ b).setCell ⟨B, 2, none⟩ c) :=
  ((h.setCell (p := ⟨B, 0, none⟩) hn a).setCell (p := ⟨B, 1, none⟩) hn b).setCell (p := ⟨B, 2, none⟩) hn c
theorem Blk.row {W : World} {B : Nat} {t : TypeId} {a b c : Value} (h : Blk W B t #[a, b, c]) :
    W.cell? ⟨B, 0, none⟩ = some a ∧ W.cell? ⟨B, 1, none⟩ = some b ∧ W.cell? ⟨B, 2, none⟩ = some c ∧ W.frozen? ⟨B, 0, none⟩ = false ∧ W.frozen? ⟨B, 1, none⟩ = false ∧ W.frozen? ⟨B, 2, none⟩ = false :=
  ⟨h.cell 0, h.cell 1, h.cell 2, h.frozen 0, h.frozen 1, h.frozen 2⟩

theorem bool_ext {x y : Bool} (h : x = true ↔ y = true) : x = y := by cases x <;> cases y <;> simp at h ⊢

theorem Blk.one {W W' : World} {B : Nat} {t : TypeId} {a : Int} (h : Blk W B t #[I a]) (hb : Below W.heap.size W W') : W'.cell? ⟨B, 0, none⟩ = some (.int .i64 a) ∧ B < W'.heap.size := ⟨(h.later hb).cell 0, (h.later hb).lt⟩
theorem one_start (w : World) (u : Array Value) (t : TypeId) : ∃ W, w.alloc (.cells u t) = W ∧ Below w.heap.size w W ∧ Blk W w.heap.size t u := ⟨_, rfl, (Below.refl _ w).alloc (Nat.le_refl _) _, Blk.new w _ _⟩
theorem three_boxes (w : World) (u0 u1 u2 : Array Value) (t0 t1 t2 : TypeId) :
    ∃ W : World, ((w.alloc (.cells u0 t0)).alloc (.cells u1 t1)).alloc (.cells u2 t2) = W ∧ Below w.heap.size w W ∧ Blk W w.heap.size t0 u0 ∧ Blk W (w.heap.size + 1) t1 u1 ∧ Blk W (w.heap.size + 1 + 1) t2 u2 := by
  refine ⟨_, rfl, (((Below.refl _ w).alloc (Nat.le_refl _) _).alloc (by simp) _).alloc (by simp; omega) _, ?_, ?_, ?_⟩
  · exact ((Blk.new w t0 u0).alloc _).alloc _
  · have := (Blk.new (w.alloc (.cells u0 t0)) t1 u1).alloc (.cells u2 t2); simpa using this
  · have := Blk.new ((w.alloc (.cells u0 t0)).alloc (.cells u1 t1)) t2 u2; simpa using this

end Go.Proofs.YtbedhpooeabehaaGreatDoor

/-
  The blocks that loops over functions leave behind for deferred calls; what one owner's facts are another's.
-/
namespace Go.Proofs.YtbedhpooeabehaaGreatDoor
open Go Go.RowKit

theorem own_mono {β : Type} {B B' : Nat} {J : β → World → Prop} (h : OwnFrom B J) (hb : B ≤ B') : OwnFrom B' J := fun s W W' row hs hg hr => h s W W' row hs hg fun r e => ⟨Nat.le_trans hb (hr r e).1, (hr r e).2⟩
/-- The blocks of earlier loops for deferred calls. -/
def MarkB (n : Nat) (bs : List Nat) (W : World) : Prop := bs.Nodup ∧ ∀ b ∈ bs, n ≤ b ∧ W.heap[b]? = some (.deferred (some []))
theorem MarkB.nil (n : Nat) (W : World) : MarkB n [] W := ⟨List.nodup_nil, fun b h => by cases h⟩
theorem MarkB.cons {n D : Nat} {bs : List Nat} {W : World} (h : MarkB n bs W) (hn : n ≤ D) (hD : W.heap[D]? = some (.deferred (some []))) (hne : ∀ b ∈ bs, b < D) : MarkB n (D :: bs) W :=
  ⟨List.nodup_cons.2 ⟨fun hm => by have := hne D hm; omega, h.1⟩, fun b hm => by
    rcases List.mem_cons.1 hm with rfl | hm
    · exact ⟨hn, hD⟩
    · exact h.2 b hm⟩
theorem MarkB.lt {n : Nat} {bs : List Nat} {W : World} (h : MarkB n bs W) {b : Nat} (hb : b ∈ bs) : b < W.heap.size := (Array.getElem?_eq_some_iff.1 (h.2 b hb).2).1
theorem MarkB.grown {n m : Nat} {bs : List Nat} {W W' : World} (h : MarkB n bs W) (hb : ∀ b ∈ bs, b < m) {row : Option Nat} (hg : W.grownBy W' row) (hr : ∀ r, row = some r → m ≤ r ∧ ∃ o : Obj, W.heap[r]? = some o ∧ o.isCells = false) : MarkB n bs W' :=
  ⟨h.1, fun b hm => ⟨(h.2 b hm).1, keeps_other hg (h.2 b hm).2 (fun e => by have := (hr b e).1; have := hb b hm; omega)⟩⟩
theorem MarkB.later {n : Nat} {bs : List Nat} {W W' : World} (h : MarkB n bs W) (hb : Below W.heap.size W W') : MarkB n bs W' := ⟨h.1, fun b hm => ⟨(h.2 b hm).1, (hb.block b (h.lt hm)).trans (h.2 b hm).2⟩⟩
theorem MarkB.keep {n m : Nat} {bs : List Nat} {W W' : World} (h : MarkB n bs W) (hk : KeepsFrom m W W') (hm : m ≤ n) : MarkB n bs W' := ⟨h.1, fun b hb => ⟨(h.2 b hb).1, hk.same b _ (Nat.le_trans hm (h.2 b hb).1) (h.2 b hb).2 rfl⟩⟩
abbrev markDs (bs : List Nat) : List Deferred := bs.map fun b => { target := .collected b, args := #[] }
theorem keepsFrom_setCell {n : Nat} (W : World) {a : Addr} (ha : a.block < n) (v : Value) : KeepsFrom n W (W.setCell a v) :=
  ⟨by simp, fun k o hk ho _ => (RowKit.Below.heap_setCell _ _ _ _ (by omega)).trans ho⟩
theorem keepT_setCell {ok : TypeId → Bool} {V : World} {B i : Nat} {t : TypeId} {vs : Array Value} (h : Blk V B t vs) (ht : ok t = false) (v : Value) : KeepT ok V (V.setCell ⟨B, i, none⟩ v) :=
  ⟨by simp, fun k c t' f hk ho => (RowKit.Below.heap_setCell _ _ _ _ (fun e => by
    have e : k = B := e
    subst e
    rw [show V.heap[k]? = _ from h] at hk
    cases hk
    rw [ht] at ho
    cases ho)).trans hk⟩

end Go.Proofs.YtbedhpooeabehaaGreatDoor

/-
  A range over an iterator (as in RangeO), where what the rounds leave as it lay is told block by block, not type by type: a round may then write numbers while the iterator keeps numbers of its own.
-/
namespace Go.Proofs.YtbedhpooeabehaaGreatDoor
open Go Go.RowKit

section
variable {P : Program} {α : Type}

/-- Cells of such blocks lie as they lay. -/
def KeepB (ok : Nat → TypeId → Bool) (W W' : World) : Prop := W.heap.size ≤ W'.heap.size ∧ ∀ (k : Nat) (c : Array Value) (t : TypeId) (f : Nat × Nat), W.heap[k]? = some (.cells c t f) → ok k t = true → W'.heap[k]? = some (.cells c t f)
theorem KeepB.refl (ok : Nat → TypeId → Bool) (W : World) : KeepB ok W W := ⟨Nat.le_refl _, fun _ _ _ _ h _ => h⟩
theorem KeepB.trans {ok : Nat → TypeId → Bool} {A B C : World} (h : KeepB ok A B) (k : KeepB ok B C) : KeepB ok A C := ⟨Nat.le_trans h.1 k.1, fun i c t f hi ht => k.2 i c t f (h.2 i c t f hi ht) ht⟩
theorem KeepB.putObj (ok : Nat → TypeId → Bool) {W : World} {l : Nat} {o : Obj} (o' : Obj) (hl : W.heap[l]? = some o) (ho : o.isCells = false) : KeepB ok W (W.putObj l o') :=
  ⟨by simp, fun k c t f hk _ => (World.putObj_heap_other (fun e => by subst e; rw [hk] at hl; cases hl; cases ho)).trans hk⟩
theorem KeepB.below (ok : Nat → TypeId → Bool) {W W' : World} (h : Below W.heap.size W W') : KeepB ok W W' := ⟨h.size, fun k _ _ _ hk _ => (h.block k (Array.getElem?_eq_some_iff.1 hk).1).trans hk⟩
/-- One block is turned, another one (or no cells at all). -/
theorem KeepB.grown {ok : Nat → TypeId → Bool} {W W' : World} {row : Option Nat} (hg : W.grownBy W' row) (hr : ∀ r c t f, row = some r → W.heap[r]? = some (.cells c t f) → ok r t = false) : KeepB ok W W' :=
  ⟨hg.size, fun k c t f hk ht => (hg.block k (Array.getElem?_eq_some_iff.1 hk).1 (fun e => by rw [hr k c t f e.symm hk] at ht; cases ht)).trans hk⟩

/-- An iterator hands out L, one by one, to whatever loop, and stops where a round says so. -/
def SeqB (P : Program) (g : Nat) (lb : Array Value) (encs : α → Array Value) (ok : Nat → TypeId → Bool) (L : List α) (w : World) : Prop :=
  ∀ (l : Nat) (J Jx : List α → World → Prop) (W : World), Below w.heap.size w W → OwnFrom W.heap.size J → OwnFrom W.heap.size Jx →
    (∀ (pre : List α) (x : α) (W1 : World), pre ++ [x] <+: L → J pre W1 → YieldAt Fence.wide 0 P l (encs x) W1 fun e W' =>
      (e = .returned (.bool true) ∧ J (pre ++ [x]) W' ∧ KeepB ok W1 W' ∧ KeepsFrom W.heap.size W1 W') ∨ (e = .returned (.bool false) ∧ Jx (pre ++ [x]) W' ∧ KeepsFrom W.heap.size W1 W')) →
    J [] W →
    Calls P g (#[.func (.yield l) #[] #[]] ++ lb) W fun e W' => (∃ v, e = .returned v) ∧ (J L W' ∨ ∃ pre, pre <+: L ∧ Jx pre W')

theorem SeqB.later {g : Nat} {lb : Array Value} {encs : α → Array Value} {ok : Nat → TypeId → Bool} {L : List α} {w w' : World} (h : SeqB P g lb encs ok L w) (hb : Below w.heap.size w w') : SeqB P g lb encs ok L w' :=
  fun l J Jx W hW => h l J Jx W (hb.trans (hW.mono hb.size))

/-- How a round's body may be left: those that have come, its own with them. -/
def postB (n : Nat) (ok : Nat → TypeId → Bool) (I : List α → World → Prop) (Ix : Code → List α → World → Prop) (pre : List α) (W : World) : Exit → Act → World → Prop
  | .normal, _, W' => KeepsFrom n W W' ∧ KeepB ok W W' ∧ I pre W'
  | .ret, _, W' => KeepsFrom n W W' ∧ Ix .ret pre W'
  | .exit id, _, W' => KeepsFrom n W W' ∧ Ix (.exit id) pre W'
  | .goto t, _, W' => KeepsFrom n W W' ∧ Ix (.goto t) pre W'
  | .panic _, _, _ => False
  | .outgrown, _, _ => False

/-- The statement, outside of rounds; where its two blocks lie. -/
theorem wpIn_rangeBx {g : Operand} {ps : Array Tmp} {assign body : Code} {Q : Exit → Act → World → Prop} {a : Act} {w : World} {n : Nat}
    {gf : Nat} {lb : Array Value} (hg : a.eval g = .func (.func gf) #[] lb) (eg : ∀ args w, (callFunc gf args).run P w = .ok (.enter gf args) w)
    {encs : α → Array Value} {ok : Nat → TypeId → Bool} {L : List α} {w0 : World} (hseq : SeqB P gf lb encs ok L w0) (hb0 : Below w0.heap.size w0 w) (hps : ∀ x, (encs x).size = ps.size)
    (I : List α → World → Prop) (Ix : Code → List α → World → Prop) (hI : OwnFrom w.heap.size I) (hIx : ∀ c, OwnFrom w.heap.size (Ix c)) (h0 : I [] w) (Ax : α → Act → World → Prop) (hAx : ∀ x a', OwnFrom w.heap.size (fun (_ : Unit) W => Ax x a' W))
    (hassign : ∀ (l : Nat) (pre : List α) (x : α) (W : World) (K : Act → World → Prop), I pre W → (∀ a' W', KeepsFrom w.heap.size W W' → KeepB ok W W' → I pre W' → Ax x a' W' → K a' W') →
      assign.wpIn (Fence.wide.inRound l) 0 P (Exit.then K (fun _ _ _ => False)) { tmps := (ps.zip (encs x)).foldl (fun t (p, v) => t.setIfInBounds p v) a.tmps, defers := [] } W)
    (hbody : ∀ (l : Nat) (pre : List α) (x : α) (a' : Act) (W : World), pre ++ [x] <+: L → l = w.heap.size + 1 → (∃ r, W.heap[l]? = some (.loop r)) → I pre W → Ax x a' W → body.wpIn (Fence.wide.inRound l) 0 P (postB w.heap.size ok I Ix (pre ++ [x]) W) a' W)
    (hdone : ∀ (D : Nat) (W : World), D = w.heap.size → I L W → W.heap[D]? = some (.deferred (some [])) → Q .normal { a with defers := { target := .collected D, args := #[] } :: a.defers } W)
    (hstop : ∀ (D : Nat) (c : Code) (pre : List α) (W : World), D = w.heap.size → pre <+: L → Ix c pre W → W.heap[D]? = some (.deferred (some [])) → c.wpIn Fence.wide n P Q { a with defers := { target := .collected D, args := #[] } :: a.defers } W) :
    (Code.rangeFunc g ps assign body).wpIn Fence.wide n P Q a w := by
  refine wpIn_rangeFunc fun fn hfn => ?_
  -- the two blocks: D for the rounds' deferred calls, l the record
  obtain ⟨D, hD⟩ : ∃ D, D = w.heap.size := ⟨_, rfl⟩
  let rec' : LoopState → Option Code → Loop := fun st pe => { state := st, pending := pe, fn, tmps := a.tmps, params := ps, assign, body, defers := w.heap.size }
  let W1 : World := (w.alloc (.deferred (some []))).alloc (.loop (rec' .ready none))
  have s1 : W1.heap.size = w.heap.size + 2 := by simp [W1]
  have l1 : W1.heap[w.heap.size + 1]? = some (.loop (rec' .ready none)) := by
    have := World.alloc_heap_new (w.alloc (.deferred (some []))) (.loop (rec' .ready none))
    rwa [World.size_alloc] at this
  have d1 : W1.heap[w.heap.size]? = some (.deferred (some [])) := (Below.heap_alloc _ _ _ (by simp)).trans (World.alloc_heap_new w _)
  have b1 : Below w0.heap.size w0 W1 := hb0.trans ((((Below.refl _ w).alloc (Nat.le_refl _) _).alloc (by simp) _).mono hb0.size)
  -- what the loop keeps, with its two blocks
  let J : List α → World → Prop := fun k W => I k W ∧ W.heap[w.heap.size + 1]? = some (.loop (rec' .ready none)) ∧ W.heap[w.heap.size]? = some (.deferred (some []))
  let Jx : List α → World → Prop := fun k W => ∃ c, Ix c k W ∧ W.heap[w.heap.size + 1]? = some (.loop (rec' .done (some c))) ∧ W.heap[w.heap.size]? = some (.deferred (some []))
  have far : ∀ {A : World} {row : Option Nat}, (∀ r, row = some r → W1.heap.size ≤ r ∧ ∃ o : Obj, A.heap[r]? = some o ∧ o.isCells = false) → (∀ r, row = some r → w.heap.size ≤ r ∧ ∃ o : Obj, A.heap[r]? = some o ∧ o.isCells = false) ∧ row ≠ some (w.heap.size + 1) ∧ row ≠ some w.heap.size := fun hr =>
    ⟨fun r e => ⟨by have := (hr r e).1; omega, (hr r e).2⟩, fun e => by have := (hr _ e).1; omega, fun e => by have := (hr _ e).1; omega⟩
  have hJ : OwnFrom W1.heap.size J := fun s A A' row hs hgr hr => by
    obtain ⟨f1, f2, f3⟩ := far hr
    exact ⟨hI s A A' row hs.1 hgr f1, keeps_other hgr hs.2.1 f2, keeps_other hgr hs.2.2 f3⟩
  have hJx : OwnFrom W1.heap.size Jx := fun s A A' row hs hgr hr => by
    obtain ⟨f1, f2, f3⟩ := far hr
    obtain ⟨c, hc, h2, h3⟩ := hs
    exact ⟨c, hIx c s A A' row hc hgr f1, keeps_other hgr h2 f2, keeps_other hgr h3 f3⟩
  -- a round
  have hround : ∀ (pre : List α) (x : α) (W : World), pre ++ [x] <+: L → J pre W → YieldAt Fence.wide 0 P (w.heap.size + 1) (encs x) W fun e W' =>
      (e = .returned (.bool true) ∧ J (pre ++ [x]) W' ∧ KeepB ok W W' ∧ KeepsFrom W1.heap.size W W') ∨ (e = .returned (.bool false) ∧ Jx (pre ++ [x]) W' ∧ KeepsFrom W1.heap.size W W') := by
    rintro pre x W hk ⟨hi, hl, hd⟩
    refine ⟨fn, _, assign, body, run_yield hl (hps _), roundIn_of_wpIn hfn (hassign _ pre x W _ hi ?_)⟩
    intro a' V hkV hbV hiV hax
    have hl' := hkV.same _ _ (by omega) hl rfl
    have hd' := hkV.same _ _ (Nat.le_refl _) hd rfl
    have hsz : w.heap.size + 1 < V.heap.size := (Array.getElem?_eq_some_iff.1 hl').1
    refine ⟨_, run_beginRound hl' rfl, ?_⟩
    have hl2 : (V.putObj (w.heap.size + 1) (.loop (rec' .busy none))).heap[w.heap.size + 1]? = some (.loop (rec' .busy none)) := World.putObj_heap_same hsz
    have hd2 : (V.putObj (w.heap.size + 1) (.loop (rec' .busy none))).heap[w.heap.size]? = some (.deferred (some [])) := (World.putObj_heap_other (by omega)).trans hd'
    have hb2 : KeepB ok W (V.putObj (w.heap.size + 1) (.loop (rec' .busy none))) := hbV.trans (KeepB.putObj ok _ hl' rfl)
    have hk2 : KeepsFrom W1.heap.size W (V.putObj (w.heap.size + 1) (.loop (rec' .busy none))) := (keepsFrom_mono hkV (by omega)).trans (keepsFrom_putObj _ _ (by omega))
    refine wpIn_mono (hbody (w.heap.size + 1) pre x a' (V.putObj (w.heap.size + 1) (.loop (rec' .busy none))) hk rfl ⟨_, hl2⟩ (hI.putObj _ hiV (by omega) hl' rfl) ((hAx x a').putObj (s := ()) _ hax (by omega) hl' rfl)) ?_
    -- the round's end
    have fin : ∀ (jump : Option Code) (X : World), KeepsFrom w.heap.size (V.putObj (w.heap.size + 1) (.loop (rec' .busy none))) X →
        (Instr.endRound (w.heap.size + 1) jump).run P X = .ok (.bool jump.isNone) (X.putObj (w.heap.size + 1) (.loop (rec' (if jump.isNone then .ready else .done) jump))) ∧
        X.heap[w.heap.size + 1]? = some (.loop (rec' .busy none)) ∧
        (X.putObj (w.heap.size + 1) (.loop (rec' (if jump.isNone then .ready else .done) jump))).heap[w.heap.size + 1]? = some (.loop (rec' (if jump.isNone then .ready else .done) jump)) ∧
        (X.putObj (w.heap.size + 1) (.loop (rec' (if jump.isNone then .ready else .done) jump))).heap[w.heap.size]? = some (.deferred (some [])) := fun jump X hX => by
      have h3 := hX.same _ _ (by omega) hl2 rfl
      exact ⟨run_endRound jump h3, h3, World.putObj_heap_same (Array.getElem?_eq_some_iff.1 h3).1, (World.putObj_heap_other (by omega)).trans (hX.same _ _ (Nat.le_refl _) hd2 rfl)⟩
    have stop : ∀ (c : Code) (X : World), KeepsFrom w.heap.size (V.putObj (w.heap.size + 1) (.loop (rec' .busy none))) X → Ix c (pre ++ [x]) X →
        ∃ (v : Value) (Y : World), (Instr.endRound (w.heap.size + 1) (some c)).run P X = .ok v Y ∧ ((Ending.returned v = .returned (.bool true) ∧ J (pre ++ [x]) Y ∧ KeepB ok W Y ∧ KeepsFrom W1.heap.size W Y) ∨ (Ending.returned v = .returned (.bool false) ∧ Jx (pre ++ [x]) Y ∧ KeepsFrom W1.heap.size W Y)) := fun c X hX hc => by
      obtain ⟨hr, h3, h4, h5⟩ := fin (some c) X hX
      exact ⟨_, _, hr, .inr ⟨rfl, ⟨c, (hIx c).putObj _ hc (by omega) h3 rfl, h4, h5⟩, (hk2.trans (keepsFrom_mono hX (by omega))).trans (keepsFrom_putObj _ _ (by omega))⟩⟩
    rintro e a3 X hp
    cases e with
    | normal =>
      obtain ⟨hX, hbX, hiX⟩ := hp
      obtain ⟨hr, h3, h4, h5⟩ := fin none X hX
      exact ⟨_, _, hr, .inl ⟨rfl, ⟨hI.putObj _ hiX (by omega) h3 rfl, h4, h5⟩, (hb2.trans hbX).trans (KeepB.putObj ok _ h3 rfl), (hk2.trans (keepsFrom_mono hX (by omega))).trans (keepsFrom_putObj _ _ (by omega))⟩⟩
    | ret => exact stop .ret X hp.1 hp.2
    | exit id => exact stop (.exit id) X hp.1 hp.2
    | goto t => exact stop (.goto t) X hp.1 hp.2
    | panic ch => exact hp.elim
    | outgrown => exact hp.elim
  refine ⟨w.heap.size + 1, [{ target := .collected w.heap.size, args := #[] }], W1, { target := .fn (.func gf) lb, args := #[.func (.yield (w.heap.size + 1)) #[] #[]] }, W1, gf, #[.func (.yield (w.heap.size + 1)) #[] #[]] ++ lb, W1,
    run_enterLoop_outer _ _ _ _ _, by simp only [resolve, hg]; simp [go_sem], fun f' _ => trivial, by simp [invoke, go_sem, eg], fun h => by simp [Fence.wide] at h, ?_⟩
  refine (callsIn_wide.2 (hseq (w.heap.size + 1) J Jx W1 b1 hJ hJx hround ⟨hI.alloc _ (hI.alloc _ h0), l1, d1⟩)).mono ?_
  rintro e W2 ⟨⟨v, rfl⟩, (⟨hi, hl, hd⟩ | ⟨k, hk, c, hi, hl, hd⟩)⟩
  · exact ⟨none, _, run_endLoop hl (by simp [rec']), hdone _ _ rfl (hI.putObj _ hi (by omega) hl rfl) ((World.putObj_heap_other (by omega)).trans hd)⟩
  · exact ⟨some c, _, run_endLoop hl (by simp [rec']), hstop _ c k _ rfl hk ((hIx c).putObj _ hi (by omega) hl rfl) ((World.putObj_heap_other (by omega)).trans hd)⟩

/-- The statement, outside of rounds. -/
theorem wpIn_rangeB {g : Operand} {ps : Array Tmp} {assign body : Code} {Q : Exit → Act → World → Prop} {a : Act} {w : World} {n : Nat}
    {gf : Nat} {lb : Array Value} (hg : a.eval g = .func (.func gf) #[] lb) (eg : ∀ args w, (callFunc gf args).run P w = .ok (.enter gf args) w)
    {encs : α → Array Value} {ok : Nat → TypeId → Bool} {L : List α} {w0 : World} (hseq : SeqB P gf lb encs ok L w0) (hb0 : Below w0.heap.size w0 w) (hps : ∀ x, (encs x).size = ps.size)
    (I : List α → World → Prop) (Ix : Code → List α → World → Prop) (hI : OwnFrom w.heap.size I) (hIx : ∀ c, OwnFrom w.heap.size (Ix c)) (h0 : I [] w) (Ax : α → Act → World → Prop) (hAx : ∀ x a', OwnFrom w.heap.size (fun (_ : Unit) W => Ax x a' W))
    (hassign : ∀ (l : Nat) (pre : List α) (x : α) (W : World) (K : Act → World → Prop), I pre W → (∀ a' W', KeepsFrom w.heap.size W W' → KeepB ok W W' → I pre W' → Ax x a' W' → K a' W') →
      assign.wpIn (Fence.wide.inRound l) 0 P (Exit.then K (fun _ _ _ => False)) { tmps := (ps.zip (encs x)).foldl (fun t (p, v) => t.setIfInBounds p v) a.tmps, defers := [] } W)
    (hbody : ∀ (l : Nat) (pre : List α) (x : α) (a' : Act) (W : World), pre ++ [x] <+: L → w.heap.size ≤ l → (∃ r, W.heap[l]? = some (.loop r)) → I pre W → Ax x a' W → body.wpIn (Fence.wide.inRound l) 0 P (postB w.heap.size ok I Ix (pre ++ [x]) W) a' W)
    (hdone : ∀ (D : Nat) (W : World), w.heap.size ≤ D → I L W → W.heap[D]? = some (.deferred (some [])) → Q .normal { a with defers := { target := .collected D, args := #[] } :: a.defers } W)
    (hstop : ∀ (D : Nat) (c : Code) (pre : List α) (W : World), w.heap.size ≤ D → pre <+: L → Ix c pre W → W.heap[D]? = some (.deferred (some [])) → c.wpIn Fence.wide n P Q { a with defers := { target := .collected D, args := #[] } :: a.defers } W) :
    (Code.rangeFunc g ps assign body).wpIn Fence.wide n P Q a w :=
  wpIn_rangeBx hg eg hseq hb0 hps I Ix hI hIx h0 Ax hAx hassign (fun l pre x a' W h1 h2 h3 h4 h5 => hbody l pre x a' W h1 (by omega) h3 h4 h5) (fun D W h1 => hdone D W (by omega)) (fun D c pre W h1 => hstop D c pre W (by omega))

end
theorem KeepB.blk {ok : Nat → TypeId → Bool} {W W' : World} {B : Nat} {t : TypeId} {vs : Array Value} (h : KeepB ok W W') (hB : Blk W B t vs) (ht : ok B t = true) : Blk W' B t vs := h.2 B vs t _ hB ht
theorem keepB_setCell {ok : Nat → TypeId → Bool} (V : World) {B i : Nat} (ht : ∀ t, ok B t = false) (v : Value) : KeepB ok V (V.setCell ⟨B, i, none⟩ v) :=
  ⟨by simp, fun k c t' f hk ho => (RowKit.Below.heap_setCell _ _ _ _ (fun e => by
    have e : k = B := e
    subst e
    rw [ht t'] at ho
    cases ho)).trans hk⟩

end Go.Proofs.YtbedhpooeabehaaGreatDoor

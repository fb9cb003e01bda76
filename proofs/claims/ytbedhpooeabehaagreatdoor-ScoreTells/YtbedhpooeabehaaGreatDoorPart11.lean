/-
  score.count: how many sides of a set's midplanes are toward those in any of some sets, and how many toward the others.
-/
import Derived.Test.YtbedhpooeabehaaGreatDoorPart9
import Derived.Test.YtbedhpooeabehaaGreatDoorPart10
import Derived.Sort.LoopGhostIn
import Derived.Test.YtbedhpooeabehaaGreatDoorPart1
import Derived.Test.YtbedhpooeabehaaGreatDoorProg
import Derived.ChangeKeysEq
import Derived.KernelRfl
import Derived.Test.YtbedhpooeabehaaGreatDoorPart3
import Derived.Test.YtbedhpooeabehaaGreatDoorPart7
namespace Go.Proofs.YtbedhpooeabehaaGreatDoor
open Go Go.RowKit Go.Shelf

attribute [local go_sem] Oper.semAt_some ext_const

/-- What count keeps: its five blocks and the list. -/
structure CntPv (w : World) (d0 d1 d2 N : Int) (vs : Value) (B : Nat) (u : Value) (xs : List Int) (x y : Nat) (V : World) : Prop where
  below : Below w.heap.size w V
  d : Blk V B 23 #[I d0, I d1, I d2]
  n : Blk V (B + 1) 3 #[I N]
  s : Blk V (B + 2) 54 #[vs]
  a : Blk V (B + 3) 3 #[I x]
  b : Blk V (B + 4) 3 #[I y]
  e : Blk V (B + 5) 31 #[I 0]
  l : Lst V (B + 6) u xs
section
variable {w V V' : World} {d0 d1 d2 N : Int} {vs : Value} {B : Nat} {u : Value} {xs : List Int} {x y : Nat}
theorem CntPv.later (h : CntPv w d0 d1 d2 N vs B u xs x y V) (hb : Below V.heap.size V V') : CntPv w d0 d1 d2 N vs B u xs x y V' :=
  ⟨then_below h.below hb, h.d.later hb, h.n.later hb, h.s.later hb, h.a.later hb, h.b.later hb, h.e.later hb, h.l.later hb⟩
theorem CntPv.grown (h : CntPv w d0 d1 d2 N vs B u xs x y V) {row : Option Nat} (hg : V.grownBy V' row) (hr : ∀ r, row = some r → w.heap.size ≤ r ∧ ∃ o : Obj, V.heap[r]? = some o ∧ o.isCells = false) : CntPv w d0 d1 d2 N vs B u xs x y V' := by
  have hc : ∀ r, row = some r → ∃ o : Obj, V.heap[r]? = some o ∧ o.isCells = false := fun r e => (hr r e).2
  exact ⟨h.below.grown hg h.below.size (fun r e => (hr r e).1), h.d.kept hg hc, h.n.kept hg hc, h.s.kept hg hc, h.a.kept hg hc, h.b.kept hg hc, h.e.kept hg hc, h.l.kept hg hc⟩
theorem CntPv.putA (h : CntPv w d0 d1 d2 N vs B u xs x y V) (hB : w.heap.size ≤ B) : CntPv w d0 d1 d2 N vs B u xs (x + 1) y (V.setCell ⟨B + 3, 0, none⟩ (I ((x : Int) + 1))) :=
  ⟨h.below.setCell (p := ⟨B + 3, 0, none⟩) (by show w.heap.size ≤ B + 3; omega) _, h.d.other _ _ (by omega), h.n.other _ _ (by omega), h.s.other _ _ (by omega), h.a.set 0 _, h.b.other _ _ (by omega), h.e.other _ _ (by omega), h.l.store (by omega) _⟩
theorem CntPv.putB (h : CntPv w d0 d1 d2 N vs B u xs x y V) (hB : w.heap.size ≤ B) : CntPv w d0 d1 d2 N vs B u xs x (y + 1) (V.setCell ⟨B + 4, 0, none⟩ (I ((y : Int) + 1))) :=
  ⟨h.below.setCell (p := ⟨B + 4, 0, none⟩) (by show w.heap.size ≤ B + 4; omega) _, h.d.other _ _ (by omega), h.n.other _ _ (by omega), h.s.other _ _ (by omega), h.a.other _ _ (by omega), h.b.set 0 _, h.e.other _ _ (by omega), h.l.store (by omega) _⟩
end
theorem MarkB.cellSet {n : Nat} {bs : List Nat} {W : World} (h : MarkB n bs W) {B : Nat} {t : TypeId} {vs : Array Value} (hB : Blk W B t vs) (i : Nat) (v : Value) : MarkB n bs (W.setCell ⟨B, i, none⟩ v) :=
  ⟨h.1, fun b hm => ⟨(h.2 b hm).1, (RowKit.Below.heap_setCell _ _ _ _ (fun e => by
    have e : b = B := e
    subst e
    have h1 := (h.2 b hm).2
    rw [show W.heap[b]? = _ from hB] at h1
    cases h1)).trans (h.2 b hm).2⟩⟩
/-- How it all ends. -/
def CntFin (w : World) (B x y : Nat) (V : World) : Prop := Below w.heap.size w V ∧ Blk V (B + 3) 3 #[I x] ∧ Blk V (B + 4) 3 #[I y] ∧ Blk V (B + 5) 31 #[I 0]
theorem CntFin.grown {w V V' : World} {B x y : Nat} (h : CntFin w B x y V) {row : Option Nat} (hg : V.grownBy V' row) (hr : ∀ r, row = some r → w.heap.size ≤ r ∧ ∃ o : Obj, V.heap[r]? = some o ∧ o.isCells = false) : CntFin w B x y V' := by
  have hc : ∀ r, row = some r → ∃ o : Obj, V.heap[r]? = some o ∧ o.isCells = false := fun r e => (hr r e).2
  exact ⟨h.1.grown hg h.1.size (fun r e => (hr r e).1), h.2.1.kept hg hc, h.2.2.1.kept hg hc, h.2.2.2.kept hg hc⟩
theorem CntPv.fin {w V : World} {d0 d1 d2 N : Int} {vs : Value} {B : Nat} {u : Value} {xs : List Int} {x y : Nat} (h : CntPv w d0 d1 d2 N vs B u xs x y V) (hB : w.heap.size ≤ B) {bs : List Nat} {n : Nat} (mk : MarkB n bs V) :
    CntFin w B x y (((V.setCell ⟨B + 3, 0, none⟩ (I x)).setCell ⟨B + 4, 0, none⟩ (I y)).setCell ⟨B + 5, 0, none⟩ (I 0)).drew ∧ MarkB n bs (((V.setCell ⟨B + 3, 0, none⟩ (I x)).setCell ⟨B + 4, 0, none⟩ (I y)).setCell ⟨B + 5, 0, none⟩ (I 0)).drew := by
  have b1 := h.b.other (B' := B + 3) 0 (I x) (by omega)
  have e1 := (h.e.other (B' := B + 3) 0 (I x) (by omega)).other (B' := B + 4) 0 (I y) (by omega)
  refine ⟨⟨(((h.below.setCell (p := ⟨B + 3, 0, none⟩) (by show w.heap.size ≤ B + 3; omega) _).setCell (p := ⟨B + 4, 0, none⟩) (by show w.heap.size ≤ B + 4; omega) _).setCell (p := ⟨B + 5, 0, none⟩) (by show w.heap.size ≤ B + 5; omega) _).drew, ((h.a.set 0 _).other _ _ (by omega)).other _ _ (by omega), (b1.set 0 _).other _ _ (by omega), e1.set 0 _⟩, ((mk.cellSet h.a _ _).cellSet b1 _ _).cellSet e1 _ _⟩

/-- What stays as it lies while sides are handed out: all but the two counts. -/
def okC (B : Nat) (k : Nat) (_ : TypeId) : Bool := k != B + 3 && k != B + 4
theorem okC_ne {B k : Nat} (h3 : k ≠ B + 3) (h4 : k ≠ B + 4) (t : TypeId) : okC B k t = true := by simp [okC, h3, h4]
theorem okC_a (B : Nat) (t : TypeId) : okC B (B + 3) t = false := by simp [okC]
theorem okC_b (B : Nat) (t : TypeId) : okC B (B + 4) t = false := by simp [okC]

/-- A list of ints at a number. -/
theorem Lst.atQ {W : World} {base : Nat} {ao : Option Addr} {n cap : Nat} {xs : List Int} (h : Lst W base (.slice ao n cap) xs) {k : Nat} (hk : k < xs.length) :
    ∃ g cur, ao = some ⟨g, 0, none⟩ ∧ Blk W g 3 cur ∧ cur[k]? = some (I (xs.getD k 0)) := by
  obtain ⟨ao', cap', e, hv⟩ := h.view
  rw [Value.slice.injEq] at e
  obtain ⟨g, cur, hg, hb, hc⟩ := hv k hk
  exact ⟨g, cur, e.1.trans hg, hb, hc⟩

/-- Six blocks laid one after another. -/
theorem six_begin (w : World) (c0 c1 c2 c3 c4 c5 : Array Value) (t0 t1 t2 t3 t4 t5 : TypeId) :
    ∃ U, U = ((((((w.alloc (.cells c0 t0)).alloc (.cells c1 t1)).alloc (.cells c2 t2)).alloc (.cells c3 t3)).alloc (.cells c4 t4)).alloc (.cells c5 t5)) ∧ Below w.heap.size w U ∧ U.heap.size = w.heap.size + 6 ∧
      Blk U w.heap.size t0 c0 ∧ Blk U (w.heap.size + 1) t1 c1 ∧ Blk U (w.heap.size + 2) t2 c2 ∧ Blk U (w.heap.size + 3) t3 c3 ∧ Blk U (w.heap.size + 4) t4 c4 ∧ Blk U (w.heap.size + 5) t5 c5 := by
  refine ⟨_, rfl, ?_, by simp, ?_, ?_, ?_, ?_, ?_, ?_⟩
  · exact ((((((Below.refl _ w).alloc (Nat.le_refl _) _).alloc (by simp) _).alloc (by simp; omega) _).alloc (by simp; omega) _).alloc (by simp; omega) _).alloc (by simp; omega) _
  · exact (((((Blk.new w t0 c0).alloc (.cells c1 t1)).alloc (.cells c2 t2)).alloc (.cells c3 t3)).alloc (.cells c4 t4)).alloc (.cells c5 t5)
  · have := ((((Blk.new (w.alloc (.cells c0 t0)) t1 c1).alloc (.cells c2 t2)).alloc (.cells c3 t3)).alloc (.cells c4 t4)).alloc (.cells c5 t5)
    simpa using this
  · have := (((Blk.new ((w.alloc (.cells c0 t0)).alloc (.cells c1 t1)) t2 c2).alloc (.cells c3 t3)).alloc (.cells c4 t4)).alloc (.cells c5 t5)
    simpa using this
  · have := ((Blk.new (((w.alloc (.cells c0 t0)).alloc (.cells c1 t1)).alloc (.cells c2 t2)) t3 c3).alloc (.cells c4 t4)).alloc (.cells c5 t5)
    simpa using this
  · have := (Blk.new ((((w.alloc (.cells c0 t0)).alloc (.cells c1 t1)).alloc (.cells c2 t2)).alloc (.cells c3 t3)) t4 c4).alloc (.cells c5 t5)
    simpa using this
  · have := Blk.new (((((w.alloc (.cells c0 t0)).alloc (.cells c1 t1)).alloc (.cells c2 t2)).alloc (.cells c3 t3)).alloc (.cells c4 t4)) t5 c5
    simpa using this

set_option maxRecDepth 100000 in
set_option maxHeartbeats 16000000 in
theorem count_calls {d0 d1 d2 : Int} {v s : Value} {vs : List Value} {wss : List (List Nat)} {ws : List Nat} (w : World) (hTab : TabOk w) (hd : mayD d0 d1 d2) (hs : Wds w s ws) (hes : errAll (d0 * d1 * d2) [ws] = 0)
    (hv : Sl w v vs) (hl : vs.length = wss.length) (hs2 : vs.length ≤ 2) (hw : ∀ i, i < vs.length → Wds w (vs.getD i undef) (wss.getD i [])) (he : ∀ i, i < vs.length → errAll (d0 * d1 * d2) [wss.getD i []] = 0) :
    Calls Tryz.prog 11 #[A3 d0 d1 d2, I (d0 * d1 * d2), s, v] w fun e W' => e = .returned (.tuple #[I (sumL d0 d1 d2 (anyN wss) (listR (d0 * d1 * d2) ws)), I (sumL d0 d1 d2 (fun m => !anyN wss m) (listR (d0 * d1 * d2) ws)), I 0]) ∧ Below w.heap.size w W' := by
  have hN := N_bd hd
  have hLs : Hid (∀ W, Below w.heap.size w W → Calls Tryz.prog 22 #[I (d0 * d1 * d2), s] W fun e W' => ∃ u, e = .returned (.tuple #[u, I 0]) ∧ Lst W' W.heap.size u (listR (d0 * d1 * d2) ws) ∧ Below W.heap.size W W') := fun W hW => by
    have := list_calls W (hTab.below hW (hTab.lt)) (hs.later hW) (d0 * d1 * d2)
    rw [hes] at this
    exact this
  have hAn : Hid (∀ (m : Int) (W : World), 0 ≤ m → Below w.heap.size w W → Calls Tryz.prog 24 #[I (d0 * d1 * d2), I m, v] W fun e W' => e = .returned (.tuple #[.bool (anyN wss m), I 0]) ∧ Below W.heap.size W W') := fun m W hm hW =>
    inAny_calls m W hm (hv.later hW) hl hs2 (fun i hi => (hw i hi).later hW) he
  have hSd : Hid (∀ (m : Int) (W : World), Calls Tryz.prog 23 #[A3 d0 d1 d2, I m] W fun e W' => e = .returned (.func (.func 41) #[] #[.pointer (some ⟨W.heap.size, 0, none⟩), .pointer (some ⟨W.heap.size + 1, 0, none⟩)]) ∧ W' = (W.alloc (.cells #[I d0, I d1, I d2] 23)).alloc (.cells #[I m] 3)) := fun m W => sidesQ_calls d0 d1 d2 m W
  have hSq : Hid (∀ (m : Int) (W : World) (ok : Nat → TypeId → Bool) (Bd Bm : Nat), m ∈ listR (d0 * d1 * d2) ws → ok Bd 23 = true → ok Bm 3 = true → Blk W Bd 23 #[I d0, I d1, I d2] → Blk W Bm 3 #[I m] → SeqB Tryz.prog 41 #[.pointer (some ⟨Bd, 0, none⟩), .pointer (some ⟨Bm, 0, none⟩)] encQ ok (sidesL d0 d1 d2 m) W) := fun m W ok Bd Bm hm h1 h2 h3 h4 =>
    sidesQ_seq ok h1 h2 W hd (listR_in hes m hm) h3 h4
  have hIn : Hid (∀ m x, m ∈ listR (d0 * d1 * d2) ws → x ∈ sidesL d0 d1 d2 m → 0 ≤ x) := fun m x hm hx => (sides_in hd (listR_in hes m hm) x hx).1
  have hLn := listQ_len hes
  have hSm : Hid (∀ (q : Int → Bool) (xs : List Int) (m : Int), sumL d0 d1 d2 q (xs ++ [m]) = sumL d0 d1 d2 q xs + cntL q (sidesL d0 d1 d2 m)) := fun q xs m => sumL_app d0 d1 d2 q xs m
  have hSb : Hid (∀ (q : Int → Bool) (xs : List Int), sumL d0 d1 d2 q xs ≤ 6 * xs.length) := fun q xs => sumL_le d0 d1 d2 q xs
  have hS6 : Hid (∀ m, (sidesL d0 d1 d2 m).length ≤ 6) := fun m => sides_len d0 d1 d2 m
  obtain ⟨ao, cap, rfl, hv0⟩ := hv
  clear hv0
  obtain ⟨ao1, n1, c1, rfl⟩ : ∃ ao n c, s = .slice ao n c := by
    obtain ⟨ao, c, e, _⟩ := hs.view
    exact ⟨ao, _, c, e⟩
  have hL4 : (listR (d0 * d1 * d2) ws).length ≤ 4096 := by omega
  clear hTab hd hs hes hl hs2 hw he hLn hN
  generalize listR (d0 * d1 * d2) ws = L at *
  generalize hS : (fun q xs => sumL d0 d1 d2 q xs) = S at *
  have hS' : ∀ q xs, sumL d0 d1 d2 q xs = S q xs := fun q xs => by rw [← hS]
  have hS0 : Hid (∀ q, S q [] = 0) := fun q => by rw [← hS]; rfl
  simp only [hS'] at hSm hSb ⊢
  clear hS hS'
  generalize sidesL d0 d1 d2 = Q at *
  generalize anyN wss = an at *
  generalize d0 * d1 * d2 = N at *
  generalize vs.length = n2 at *
  refine (callsIn_wide (n := 3)).1 ?_
  refine callsIn_of_wp_marks Tryz.func11 rfl trivial ?_ rfl
  simp only [Tryz.ntmps11, List.size_toArray, List.length_cons, List.length_nil, Nat.reduceAdd, Nat.reduceSub, Array.replicate_succ, Array.replicate_zero, List.push_toArray, List.append_toArray, List.nil_append, List.cons_append]
  obtain ⟨U0, hU0, hB0, hz0, kd, kn, ks, ka, kb, ke⟩ := six_begin w #[I d0, I d1, I d2] #[I N] #[.slice ao n2 cap] #[I 0] #[I 0] #[I 0] 23 3 54 3 3 31
  have HU : Hid (_ = U0) := hU0.symm
  have d1' := kn.cell 0
  have l1' := kn.lt
  simp at d1'
  rw [hU0] at d1' l1'
  clear hU0
  gi_wp2_with fail
  rw [HU.out]
  refine ⟨trivial, (callsIn_wide.2 (hLs.out _ hB0)).mono ?_⟩
  rintro e w1 ⟨u, rfl, hLu, hB1⟩
  clear d1' l1' HU
  replace kd := kd.later hB1
  replace kn := kn.later hB1
  replace ks := ks.later hB1
  replace ka := ka.later hB1
  replace kb := kb.later hB1
  replace ke := ke.later hB1
  have hT := then_below hB0 hB1
  rw [hz0] at hLu
  obtain ⟨al, cl, rfl, hvw⟩ := hLu.view
  clear hvw
  have pv0 : CntPv w d0 d1 d2 N (.slice ao n2 cap) w.heap.size (.slice al L.length cl) L 0 0 (w1.setCell ⟨w.heap.size + 5, 0, none⟩ (I 0)) :=
    ⟨hT.setCell (p := ⟨w.heap.size + 5, 0, none⟩) (by show w.heap.size ≤ w.heap.size + 5; omega) _, kd.other _ _ (by omega), kn.other _ _ (by omega), ks.other _ _ (by omega), ka.other _ _ (by omega), kb.other _ _ (by omega), ke.set 0 _, hLu.store (by omega) _⟩
  have c5 := ke.cell 0
  have f5 := ke.frozen 0
  have z5 := ke.lt
  simp at c5
  clear kd kn ks ka kb ke hLu hB0 hB1 hT hz0 hLs U0
  gi_wp2
  simp only [Nat.add_assoc, Nat.reduceAdd]
  have hS0a := hS0.out an
  have hS0b := hS0.out (fun m => !an m)
  have HB : Hid (w.heap.size ≤ w.heap.size) := Nat.le_refl _
  have mk0 : MarkB w.heap.size [] (w1.setCell ⟨w.heap.size + 5, 0, none⟩ (I 0)) := MarkB.nil _ _
  generalize w1.setCell ⟨w.heap.size + 5, 0, none⟩ (I 0) = w2 at *
  clear c5 f5 z5 w1
  refine wpIn_loop_ghost_k (fun n a wr => ∃ (k : Nat) (bs : List Nat) (u13 u29 u30 u31 u32 u33 u34 u51 : Value), n + k = L.length ∧ a = { tmps := #[A3 d0 d1 d2, I N, .slice ao1 n1 c1, .slice ao n2 cap, .pointer (some ⟨w.heap.size, 0, none⟩), .pointer (some ⟨w.heap.size + 1, 0, none⟩), undef, .pointer (some ⟨w.heap.size + 2, 0, none⟩), .pointer (some ⟨w.heap.size + 3, 0, none⟩), .pointer (some ⟨w.heap.size + 4, 0, none⟩), .pointer (some ⟨w.heap.size + 5, 0, none⟩), .slice al L.length cl, undef, u13, undef, undef, undef, .tuple #[.slice al L.length cl, I 0], I N, .slice ao1 n1 c1, .tuple #[.slice al L.length cl, I 0], .slice al L.length cl, I 0, I 0, .bool false, undef, .slice al L.length cl, .int .i64 L.length, .int .i64 k, u29, u30, u31, u32, u33, u34, undef, undef, undef, undef, undef, undef, undef, undef, undef, undef, undef, undef, undef, undef, undef, undef, u51, undef, undef], defers := markDs bs } ∧ CntPv w d0 d1 d2 N (.slice ao n2 cap) w.heap.size (.slice al L.length cl) L (S an (L.take k)) (S (fun m => !an m) (L.take k)) wr ∧ MarkB w.heap.size bs wr) L.length ⟨0, [], _, _, _, _, _, _, _, _, by omega, rfl, by rw [List.take_zero, hS0a, hS0b]; exact pv0, mk0⟩ ?_
  intro n a wr hI Jg K hJg hK
  obtain ⟨k, bs, u13, u29, u30, u31, u32, u33, u34, u51, hn, rfl, pv1, mk1⟩ := hI
  have HK : Hid ((∀ k a' w', _ → Jg k a' w') ∧ (∀ a' w', Handed Jg n a' w' → K a' w')) := ⟨hJg, hK⟩
  clear hJg hK pv0 mk0 hS0a hS0b hS0 w2
  by_cases hlt : (k : Int) < (L.length : Int)
  · have hk : k < L.length := by omega
    obtain ⟨g, cur, rfl, hblk, hcur⟩ := pv1.l.atQ hk
    have cg := (hblk.cell k).trans hcur
    have zg := hblk.lt
    have hmem : L.getD k 0 ∈ L := by
      rw [List.getD_eq_getElem?_getD, List.getElem?_eq_getElem hk]
      exact List.getElem_mem hk
    have hbx : S an (L.take k) ≤ 24576 ∧ S (fun m => !an m) (L.take k) ≤ 24576 := by
      have h1 := hSb.out an (L.take k)
      have h2 := hSb.out (fun m => !an m) (L.take k)
      rw [List.length_take] at h1 h2
      omega
    have HSt : Hid (∀ q, S q (L.take (k + 1)) = S q (L.take k) + cntL q (Q (L.getD k 0))) := fun q => by
      rw [← hSm.out q]
      congr 1
      rw [List.take_succ_eq_append_getElem hk]
      simp [hk]
    have HSqk : Hid (∀ (W : World) (ok : Nat → TypeId → Bool) (Bd Bm : Nat), ok Bd 23 = true → ok Bm 3 = true → Blk W Bd 23 #[I d0, I d1, I d2] → Blk W Bm 3 #[I (L.getD k 0)] → SeqB Tryz.prog 41 #[.pointer (some ⟨Bd, 0, none⟩), .pointer (some ⟨Bm, 0, none⟩)] encQ ok (Q (L.getD k 0)) W) := fun W ok Bd Bm => hSq.out (L.getD k 0) W ok Bd Bm hmem
    have HIn : Hid (∀ x, x ∈ Q (L.getD k 0) → 0 ≤ x) := fun x => hIn.out _ x hmem
    have HQ6 : Hid ((Q (L.getD k 0)).length ≤ 6) := hS6.out _
    have hSd' : Hid (∀ (W : World), Calls Tryz.prog 23 #[A3 d0 d1 d2, I (L.getD k 0)] W fun e W' => e = .returned (.func (.func 41) #[] #[.pointer (some ⟨W.heap.size, 0, none⟩), .pointer (some ⟨W.heap.size + 1, 0, none⟩)]) ∧ W' = (W.alloc (.cells #[I d0, I d1, I d2] 23)).alloc (.cells #[I (L.getD k 0)] 3)) := fun W => hSd.out _ W
    clear hcur hblk hmem hSq hIn hS6 hSm hSb hSd
    generalize L.getD k 0 = m at *
    generalize hql : Q m = QL at *
    clear hql
    obtain ⟨x0, hx0⟩ : ∃ x, x = S an (L.take k) := ⟨_, rfl⟩
    obtain ⟨y0, hy0⟩ : ∃ x, x = S (fun m => !an m) (L.take k) := ⟨_, rfl⟩
    rw [← hx0, ← hy0] at pv1 hbx
    have HSx : Hid (S an (L.take (k + 1)) = x0 + cntL an QL ∧ S (fun m => !an m) (L.take (k + 1)) = y0 + cntL (fun m => !an m) QL) := ⟨by rw [HSt.out, ← hx0], by rw [HSt.out, ← hy0]⟩
    clear hx0 hy0 HSt
    obtain ⟨e0, e1, e2, hez⟩ := pv1.d.three (Below.refl _ _)
    gi_wp2_with fail
    refine ⟨trivial, (callsIn_wide.2 (hSd'.out _)).mono ?_⟩
    rintro e w3 ⟨rfl, rfl⟩
    obtain ⟨U1, hU1, hbU, hsq⟩ : ∃ U1, U1 = ((wr.alloc (.cells #[I d0, I d1, I d2] 23)).alloc (.cells #[I m] 3)) ∧ Below wr.heap.size wr U1 ∧ SeqB Tryz.prog 41 #[.pointer (some ⟨wr.heap.size, 0, none⟩), .pointer (some ⟨wr.heap.size + 1, 0, none⟩)] encQ (okC w.heap.size) QL U1 := by
      have h5 := pv1.e.lt
      refine ⟨_, rfl, ((Below.refl _ wr).alloc (Nat.le_refl _) _).alloc (by simp) _, HSqk.out _ _ _ _ (okC_ne (by omega) (by omega) _) (okC_ne (by omega) (by omega) _) ((Blk.new wr 23 #[I d0, I d1, I d2]).alloc _) ?_⟩
      have := Blk.new (wr.alloc (.cells #[I d0, I d1, I d2] 23)) 3 #[I m]
      simpa using this
    rw [← hU1]
    have pvU := pv1.later hbU
    have HM1 : Hid (MarkB w.heap.size bs U1) := mk1.later hbU
    have HML : Hid (∀ d ∈ bs, d < U1.heap.size) := fun d hd => (mk1.later hbU).lt hd
    have HWU : Hid (w.heap.size + 5 < U1.heap.size) := pvU.e.lt
    clear hU1 hbU pv1 mk1 e0 e1 e2 hez cg zg HSqk hSd'
    generalize wr.heap.size + 1 = B2 at *
    generalize wr.heap.size = B1 at *
    clear wr
    gi_wp2_with fail
    refine wpIn_rangeB rfl (enters_of Tryz.func41 (by kernel_rfl) rfl) hsq (Below.refl _ _) (fun _ => rfl)
      (fun pre V => CntPv w d0 d1 d2 N (.slice ao n2 cap) w.heap.size (.slice (some ⟨g, 0, none⟩) L.length cl) L (x0 + cntL an pre) (y0 + cntL (fun m => !an m) pre) V ∧ MarkB w.heap.size bs V)
      (fun _ _ _ => False)
      (fun pre A A' row hs hgr hr => ⟨hs.1.grown hgr (fun r e => ⟨by have := (hr r e).1; have := HWU.out; omega, (hr r e).2⟩), hs.2.grown HML.out hgr hr⟩)
      (fun _ _ _ _ _ hs _ _ => hs)
      ⟨pvU, HM1.out⟩
      (fun xx a' _ => a' = { tmps := #[A3 d0 d1 d2, I N, .slice ao1 n1 c1, .slice ao n2 cap, .pointer (some ⟨w.heap.size, 0, none⟩), .pointer (some ⟨w.heap.size + 1, 0, none⟩), undef, .pointer (some ⟨w.heap.size + 2, 0, none⟩), .pointer (some ⟨w.heap.size + 3, 0, none⟩), .pointer (some ⟨w.heap.size + 4, 0, none⟩), .pointer (some ⟨w.heap.size + 5, 0, none⟩), .slice (some ⟨g, 0, none⟩) L.length cl, undef, I m, I xx, undef, undef, .tuple #[.slice (some ⟨g, 0, none⟩) L.length cl, I 0], I N, .slice ao1 n1 c1, .tuple #[.slice (some ⟨g, 0, none⟩) L.length cl, I 0], .slice (some ⟨g, 0, none⟩) L.length cl, I 0, I 0, .bool false, undef, .slice (some ⟨g, 0, none⟩) L.length cl, .int .i64 L.length, .int .i64 k, .bool true, .pointer (some ⟨g, k, none⟩), I m, .agg #[I d0, I d1, I d2], I m, .func (.func 41) #[] #[.pointer (some ⟨B1, 0, none⟩), .pointer (some ⟨B2, 0, none⟩)], I xx, undef, undef, undef, undef, undef, undef, undef, undef, undef, undef, undef, undef, undef, undef, undef, u51, undef, undef], defers := [] })
      (fun _ _ _ _ _ _ hs _ _ => hs) ?assign ?body ?done ?stop
    case assign =>
      rintro l2 pre xx V K2 hI hK2
      gi_wp2
      exact hK2 _ _ ((keeps_below (Below.refl _ V)).from _) (KeepB.refl _ _) hI rfl
    case body =>
      rintro l2 pre xx a' V hpre hl2 _ ⟨pv, mk⟩ rfl
      have hx0 : 0 ≤ xx := HIn.out xx (hpre.subset (by simp))
      have hcl : cntL an pre ≤ 6 ∧ cntL (fun m => !an m) pre ≤ 6 := by
        have h1 := cntL_le an pre
        have h2 := cntL_le (fun m => !an m) pre
        have h3 := hpre.length_le
        have h4 := HQ6.out
        rw [List.length_append] at h3
        omega
      have HH : Hid (Calls Tryz.prog 24 #[I N, I xx, .slice ao n2 cap] V fun e W' => e = .returned (.tuple #[.bool (an xx), I 0]) ∧ Below V.heap.size V W') := hAn.out xx V hx0 pv.below
      have HC1 : Hid (an xx = true → cntL an (pre ++ [xx]) = cntL an pre + 1 ∧ cntL (fun m => !an m) (pre ++ [xx]) = cntL (fun m => !an m) pre) := fun h => ⟨cntL_yes h _, cntL_no (q := fun m => !an m) (by simp [h]) _⟩
      have HC0 : Hid (an xx = false → cntL an (pre ++ [xx]) = cntL an pre ∧ cntL (fun m => !an m) (pre ++ [xx]) = cntL (fun m => !an m) pre + 1) := fun h => ⟨cntL_no h _, cntL_yes (q := fun m => !an m) (by simp [h]) _⟩
      have HI : Hid (∀ {V' : World} {x y : Nat}, x = x0 + cntL an (pre ++ [xx]) → y = y0 + cntL (fun m => !an m) (pre ++ [xx]) → CntPv w d0 d1 d2 N (.slice ao n2 cap) w.heap.size (.slice (some ⟨g, 0, none⟩) L.length cl) L x y V' → CntPv w d0 d1 d2 N (.slice ao n2 cap) w.heap.size (.slice (some ⟨g, 0, none⟩) L.length cl) L (x0 + cntL an (pre ++ [xx])) (y0 + cntL (fun m => !an m) (pre ++ [xx])) V') := fun hx hy h => by rw [← hx, ← hy]; exact h
      have n0 := pv.n.cell 0
      have nz := pv.n.lt
      have s0 := pv.s.cell 0
      have sz := pv.s.lt
      simp at n0 s0
      have HP : Hid (CntPv w d0 d1 d2 N (.slice ao n2 cap) w.heap.size (.slice (some ⟨g, 0, none⟩) L.length cl) L (x0 + cntL an pre) (y0 + cntL (fun m => !an m) pre) V ∧ MarkB w.heap.size bs V) := ⟨pv, mk⟩
      clear pv mk hpre
      obtain ⟨x1, hx1⟩ : ∃ x, x = x0 + cntL an pre := ⟨_, rfl⟩
      obtain ⟨y1, hy1⟩ : ∃ x, x = y0 + cntL (fun m => !an m) pre := ⟨_, rfl⟩
      rw [← hx1, ← hy1] at HP
      have hb1 : x1 ≤ 30000 ∧ y1 ≤ 30000 := by omega
      have HX : Hid (x1 = x0 + cntL an pre ∧ y1 = y0 + cntL (fun m => !an m) pre) := ⟨hx1, hy1⟩
      clear hx1 hy1 hcl hbx
      generalize an xx = ans at *
      gi_wp2_with fail
      refine ⟨trivial, rfl, (CallsIn.inRound l2 (callsIn_wide.2 HH.out)).mono ?_⟩
      rintro e V2 ⟨rfl, hB2⟩
      have pv2 := HP.out.1.later hB2
      have HM2 : Hid (Below V.heap.size V V2 ∧ MarkB w.heap.size bs (V2.setCell ⟨w.heap.size + 3, 0, none⟩ (I ((x1 : Int) + 1))) ∧ MarkB w.heap.size bs (V2.setCell ⟨w.heap.size + 4, 0, none⟩ (I ((y1 : Int) + 1)))) := ⟨hB2, (HP.out.2.later hB2).cellSet pv2.a _ _, (HP.out.2.later hB2).cellSet pv2.b _ _⟩
      clear n0 nz s0 sz hB2 HP HH
      cases ans
      · have a0 := pv2.b.cell 0
        have af := pv2.b.frozen 0
        have az := pv2.b.lt
        simp at a0
        have HE : Hid (CntPv w d0 d1 d2 N (.slice ao n2 cap) w.heap.size (.slice (some ⟨g, 0, none⟩) L.length cl) L (x0 + cntL an (pre ++ [xx])) (y0 + cntL (fun m => !an m) (pre ++ [xx])) (V2.setCell ⟨w.heap.size + 4, 0, none⟩ (I ((y1 : Int) + 1)))) :=
          HI.out (by rw [(HC0.out (by trivial)).1]; exact HX.out.1) (by rw [(HC0.out (by trivial)).2, HX.out.2]; omega) (pv2.putB (Nat.le_refl _))
        clear pv2
        gi_wp2
        exact ⟨((keeps_below HM2.out.1).from _).trans (keepsFrom_setCell _ (a := ⟨w.heap.size + 4, 0, none⟩) (by have := HWU.out; show w.heap.size + 4 < _; omega) _), (KeepB.below _ HM2.out.1).trans (keepB_setCell _ (okC_b _) _), HE.out, HM2.out.2.2⟩
      · have a0 := pv2.a.cell 0
        have af := pv2.a.frozen 0
        have az := pv2.a.lt
        simp at a0
        have HE : Hid (CntPv w d0 d1 d2 N (.slice ao n2 cap) w.heap.size (.slice (some ⟨g, 0, none⟩) L.length cl) L (x0 + cntL an (pre ++ [xx])) (y0 + cntL (fun m => !an m) (pre ++ [xx])) (V2.setCell ⟨w.heap.size + 3, 0, none⟩ (I ((x1 : Int) + 1)))) :=
          HI.out (by rw [(HC1.out (by trivial)).1, HX.out.1]; omega) (by rw [(HC1.out (by trivial)).2]; exact HX.out.2) (pv2.putA (Nat.le_refl _))
        clear pv2
        gi_wp2
        exact ⟨((keeps_below HM2.out.1).from _).trans (keepsFrom_setCell _ (a := ⟨w.heap.size + 3, 0, none⟩) (by have := HWU.out; show w.heap.size + 3 < _; omega) _), (KeepB.below _ HM2.out.1).trans (keepB_setCell _ (okC_a _) _), HE.out, HM2.out.2.1⟩
    case done =>
      rintro Db V hD ⟨pv, mk⟩ hDV
      have mk2 : MarkB w.heap.size (Db :: bs) V := mk.cons (by have := HWU.out; omega) hDV (fun d hd => Nat.lt_of_lt_of_le (HML.out d hd) hD)
      rw [← HSx.out.1, ← HSx.out.2] at pv
      have HE2 : Hid (CntPv w d0 d1 d2 N (.slice ao n2 cap) w.heap.size (.slice (some ⟨g, 0, none⟩) L.length cl) L (S an (L.take (k + 1))) (S (fun m => !an m) (L.take (k + 1))) V ∧ MarkB w.heap.size (Db :: bs) V) := ⟨pv, mk2⟩
      clear pv mk mk2 hDV hD
      gi_wp2
      exact HK.out.2 _ _ ⟨n - 1, by omega, HK.out.1 _ _ _ ⟨k + 1, Db :: bs, _, _, _, _, _, _, _, _, by omega, rfl, HE2.out.1, HE2.out.2⟩⟩
    case stop =>
      rintro D c pre V hD hpre h
      exact h.elim
  · obtain rfl : k = L.length := by omega
    rw [List.take_length] at pv1
    have HP : Hid (CntPv w d0 d1 d2 N (.slice ao n2 cap) w.heap.size (.slice al L.length cl) L (S an L) (S (fun m => !an m) L) wr ∧ MarkB w.heap.size bs wr) := ⟨pv1, mk1⟩
    have a3 := pv1.a.cell 0
    have f3 := pv1.a.frozen 0
    have z3 := pv1.a.lt
    have a4 := pv1.b.cell 0
    have f4 := pv1.b.frozen 0
    have z4 := pv1.b.lt
    have a5 := pv1.e.cell 0
    have f5 := pv1.e.frozen 0
    have z5 := pv1.e.lt
    simp at a3 a4 a5
    clear pv1 mk1
    gi_wp2_with fail
    gi_region
    have HF := HP.out.1.fin (Nat.le_refl _) HP.out.2
    have HF : Hid _ := HF
    clear a3 f3 z3 a4 f4 z4 a5 f5 z5 HP
    gi_wp2
    refine leaves_own (n := w.heap.size) (fun V' => CntFin w w.heap.size (S an L) (S (fun m => !an m) L) V') (fun _ A A' row hs hgr hr => hs.grown hgr hr) bs _ HF.out.2.1 HF.out.2.2 HF.out.1 (fun V' hV' _ => ?_)
    have a3 := hV'.2.1.cell 0
    have a4 := hV'.2.2.1.cell 0
    have a5 := hV'.2.2.2.cell 0
    simp at a3 a4 a5
    exact ⟨.tuple #[I (S an L), I (S (fun m => !an m) L), I 0], by simp [results, Tryz.f11, go_sem, a3, a4, a5], rfl, hV'.1⟩

end Go.Proofs.YtbedhpooeabehaaGreatDoor

/-
  '==' between two rows of three whole numbers: as the numbers are.
-/
namespace Go.Proofs.YtbedhpooeabehaaGreatDoor
open Go.RowKit

theorem eqIn_arr3 {P : Program} {t e : TypeId} {i : TypeInfo} (hu : P.underlying t = some (.array 3 e)) (he : P.underlying e = some (.int .i64)) (hi : P.info? e = some i) (hc : P.cellsOf e = 1) (hp : P.plainKey e = true)
    (a b c a' b' c' : Int) (w : World) : (Op.equalIn 10000 t (.agg #[.int .i64 a, .int .i64 b, .int .i64 c]) (.agg #[.int .i64 a', .int .i64 b', .int .i64 c'])).run P w = .ok (a == a' && (b == b' && c == c')) w := by
  rw [run_equalIn_array w 9999 _ _ hu hi, hc]
  have r3 : List.range 3 = [0, 1, 2] := rfl
  have p0 : ∀ (x y z : Value) (w : World), (part e #[x, y, z] 0).run P w = .ok x w := fun x y z w => run_part_plain w hp rfl
  have p1 : ∀ (x y z : Value) (w : World), (part e #[x, y, z] 1).run P w = .ok y w := fun x y z w => run_part_plain w hp rfl
  have p2 : ∀ (x y z : Value) (w : World), (part e #[x, y, z] 2).run P w = .ok z w := fun x y z w => run_part_plain w hp rfl
  have hq : ∀ (x y : Int) (w : World), (Op.equalIn 9999 e (.int .i64 x) (.int .i64 y)).run P w = .ok (x == y) w := fun x y w => run_equalIn_int w 9998 e .i64 .i64 x y he
  rw [r3]
  by_cases h0 : a = a' <;> by_cases h1 : b = b' <;> by_cases h2 : c = c' <;> simp [Op.eqItems, p0, p1, p2, hq, h0, h1, h2]

set_option maxRecDepth 100000 in
theorem eq_arr (a b c a' b' c' : Int) (w : World) : (Op.equalIn 10000 22 (.agg #[.int .i64 a, .int .i64 b, .int .i64 c]) (.agg #[.int .i64 a', .int .i64 b', .int .i64 c'])).run Tryz.prog w = .ok (a == a' && (b == b' && c == c')) w := by
  obtain ⟨i, hi⟩ : ∃ i, Tryz.prog.info? 3 = some i := ⟨_, rfl⟩
  exact eqIn_arr3 Tryz.underlying22 Tryz.underlying3 hi (by kernel_rfl) (by kernel_rfl) a b c a' b' c' w

end Go.Proofs.YtbedhpooeabehaaGreatDoor

/-
  '==' between two boxes: as their numbers are.
-/
namespace Go.Proofs.YtbedhpooeabehaaGreatDoor
open Go.RowKit

theorem eqIn_arr3_at {P : Program} (d : Nat) {t e : TypeId} {i : TypeInfo} (hu : P.underlying t = some (.array 3 e)) (he : P.underlying e = some (.int .i64)) (hi : P.info? e = some i) (hc : P.cellsOf e = 1) (hp : P.plainKey e = true)
    (a b c a' b' c' : Int) (w : World) : (Op.equalIn (d + 2) t (.agg #[.int .i64 a, .int .i64 b, .int .i64 c]) (.agg #[.int .i64 a', .int .i64 b', .int .i64 c'])).run P w = .ok (a == a' && (b == b' && c == c')) w := by
  rw [run_equalIn_array w (d + 1) _ _ hu hi, hc]
  have r3 : List.range 3 = [0, 1, 2] := rfl
  have p0 : ∀ (x y z : Value) (w : World), (part e #[x, y, z] 0).run P w = .ok x w := fun x y z w => run_part_plain w hp rfl
  have p1 : ∀ (x y z : Value) (w : World), (part e #[x, y, z] 1).run P w = .ok y w := fun x y z w => run_part_plain w hp rfl
  have p2 : ∀ (x y z : Value) (w : World), (part e #[x, y, z] 2).run P w = .ok z w := fun x y z w => run_part_plain w hp rfl
  have hq : ∀ (x y : Int) (w : World), (Op.equalIn (d + 1) e (.int .i64 x) (.int .i64 y)).run P w = .ok (x == y) w := fun x y w => run_equalIn_int w d e .i64 .i64 x y he
  rw [r3]
  by_cases h0 : a = a' <;> by_cases h1 : b = b' <;> by_cases h2 : c = c' <;> simp [Op.eqItems, p0, p1, p2, hq, h0, h1, h2]

/-- Two rows of three numbers are the same. -/
def same3 (a b c a' b' c' : Int) : Bool := a == a' && (b == b' && c == c')
theorem same3_self (a b c : Int) : same3 a b c a b c = true := by simp [same3]
def sameBx (a b : Bx) : Bool := same3 a.x a.y a.z b.x b.y b.z && same3 a.a a.b a.c b.a b.b b.c
theorem sameBx_iff (a b : Bx) : sameBx a b = true ↔ a = b := by
  cases a; cases b; simp [sameBx, same3, and_assoc]
theorem sameBx_self (a : Bx) : sameBx a a = true := (sameBx_iff a a).2 rfl

set_option maxRecDepth 100000 in
theorem eq_arr9 (a b c a' b' c' : Int) (w : World) : (Op.equalIn 9999 22 (.agg #[.int .i64 a, .int .i64 b, .int .i64 c]) (.agg #[.int .i64 a', .int .i64 b', .int .i64 c'])).run Tryz.prog w = .ok (same3 a b c a' b' c') w := by
  obtain ⟨i, hi⟩ : ∃ i, Tryz.prog.info? 3 = some i := ⟨_, rfl⟩
  exact eqIn_arr3_at 9997 Tryz.underlying22 Tryz.underlying3 hi (by kernel_rfl) (by kernel_rfl) a b c a' b' c' w

end Go.Proofs.YtbedhpooeabehaaGreatDoor

/-
  box's sides: sideOf, mayBe, after, has, meets, within: what each call answers; nothing that lay before is turned.
-/
namespace Go.Proofs.YtbedhpooeabehaaGreatDoor
open Go.RowKit Go.Shelf

attribute [local go_sem] Oper.semAt_some ext_const

/-- What a later world has in a box's block. -/
theorem Blk.six {W W' : World} {B : Nat} {t : TypeId} {a b c d e f : Int} (h : Blk W B t #[I a, I b, I c, I d, I e, I f]) (hb : Below W.heap.size W W') :
    (W'.cell? ⟨B, 0, none⟩ = some (I a) ∧ W'.cell? ⟨B, 1, none⟩ = some (I b) ∧ W'.cell? ⟨B, 2, none⟩ = some (I c)) ∧ (W'.cell? ⟨B, 3, none⟩ = some (I d) ∧ W'.cell? ⟨B, 4, none⟩ = some (I e) ∧ W'.cell? ⟨B, 5, none⟩ = some (I f)) ∧ B < W'.heap.size :=
  ⟨⟨(h.later hb).cell 0, (h.later hb).cell 1, (h.later hb).cell 2⟩, ⟨(h.later hb).cell 3, (h.later hb).cell 4, (h.later hb).cell 5⟩, (h.later hb).lt⟩

theorem after_calls {r b k : Int} (s : Int) (w : World) (hr : r ≤ 16) (hb : 0 ≤ b ∧ b < r) (hk : 0 ≤ k ∧ k < r) :
    Calls Tryz.prog 85 #[A3 r b s, I k] w fun e W' => e = .returned (I (aft r b k)) ∧ Below w.heap.size w W' := by
  have HR : Hid ((k - b + r) % r = aft r b k) := aft_rem hb hk
  obtain ⟨b0, b1⟩ := hb
  obtain ⟨k0, k1⟩ := hk
  go_enter Tryz.func85, Tryz.ntmps85
  go_wp2
  go_ret
  rw [HR.out]
  exact ⟨rfl, (Below.refl _ w).alloc (Nat.le_refl _) _⟩

theorem has_calls {r b k : Int} (s : Int) (w : World) (hr : r ≤ 16) (hb : 0 ≤ b ∧ b < r) (hk : 0 ≤ k ∧ k < r) :
    Calls Tryz.prog 80 #[A3 r b s, I k] w fun e W' => e = .returned (.bool (hasS r b s k)) ∧ Below w.heap.size w W' := by
  have hmx : Tryz.prog.follows .mixedOrders = true := by kernel_rfl
  go_enter Tryz.func80, Tryz.ntmps80
  go_wp2
  have b0 := Blk.new w 109 #[I r, I b, I s]
  have x0 := Ext.cell b0 0
  have x1 := Ext.cell b0 1
  have x2 := Ext.cell b0 2
  simp at x0 x1 x2
  have hT : Below w.heap.size w (w.alloc (.cells #[I r, I b, I s] 109)) := (Below.refl _ w).alloc (Nat.le_refl _) _
  refine wp_region_look hmx (by kernel_rfl) ?_
  repeat (go_big_quiet_step ((go_at_call 85; exact calls_ext (after_calls s _ hr hb hk))))
  refine wpQuiet_nil ?_
  intro v
  go_wp2
  go_ret
  exact ⟨rfl, then_below hT v.le⟩

theorem maybe_calls (r b s : Int) (w : World) :
    Calls Tryz.prog 79 #[A3 r b s] w fun e W' => e = .returned (.bool (maySB r b s)) ∧ Below w.heap.size w W' := by
  go_enter Tryz.func79, Tryz.ntmps79
  go_wp2
  all_goals
    go_ret
    refine ⟨?_, (Below.refl _ w).alloc (Nat.le_refl _) _⟩
    simp [maySB, *]
    try omega

theorem three_start (w : World) (u0 u1 u2 : Array Value) (t0 t1 t2 : TypeId) :
    ∃ W : World, ((w.alloc (.cells u0 t0)).alloc (.cells u1 t1)).alloc (.cells u2 t2) = W ∧ W.heap.size = w.heap.size + 3 ∧ Below w.heap.size w W ∧ Blk W w.heap.size t0 u0 ∧ Blk W (w.heap.size + 1) t1 u1 ∧ Blk W (w.heap.size + 1 + 1) t2 u2 := by
  obtain ⟨W, hW, hB, b0, b1⟩ := two_start w u0 u1 t0 t1
  refine ⟨_, rfl, by simp, ?_, ?_, ?_, ?_⟩
  · rw [hW]; exact then_alloc hB _
  · rw [hW]; exact b0.alloc _
  · rw [hW]; exact b1.alloc _
  · have := Blk.new ((w.alloc (.cells u0 t0)).alloc (.cells u1 t1)) t2 u2; simpa using this

set_option maxHeartbeats 1000000 in
theorem side_calls (d0 d1 d2 : Int) (b : Bx) (k : Fin 3) (w : World) :
    Calls Tryz.prog 66 #[A3 d0 d1 d2, B6 b, I (axI k)] w fun e W' => e = .returned (A3 (dimAt d0 d1 d2 k) (bAt b k) (sAt b k)) ∧ Below w.heap.size w W' := by
  have hmx : Tryz.prog.follows .mixedOrders = true := by kernel_rfl
  rcases fin3 k with rfl | rfl | rfl
  all_goals
    simp only [axI, bAt, sAt, dimAt]
    go_enter Tryz.func66, Tryz.ntmps66
    go_wp2
    obtain ⟨W, hW, hs, hB0, b0, b1, b2⟩ := three_start w #[I d0, I d1, I d2] #[I b.x, I b.y, I b.z, I b.a, I b.b, I b.c] #[I 0, I 0, I 0] 23 27 109
    rw [hW]
    clear hW
    have x0 := Ext.cell b0 0
    have x1 := Ext.cell b0 1
    have x2 := Ext.cell b0 2
    have y0 := Ext.cell b1 0
    have y1 := Ext.cell b1 1
    have y2 := Ext.cell b1 2
    have y3 := Ext.cell b1 3
    have y4 := Ext.cell b1 4
    have y5 := Ext.cell b1 5
    simp at x0 x1 x2 y0 y1 y2 y3 y4 y5
    refine wp_region_tail 12 hmx (by kernel_rfl) ?_
    simp only [List.take_succ_cons, List.take_zero, List.drop_succ_cons, List.drop_zero]
    repeat (go_big_quiet_step (fail))
    refine wpQuiet_nil ?_
    intro v
    have q2 := b2.later v.le
    obtain ⟨c0, c1, c2, f0, f1, f2⟩ := q2.row
    gi_wp2
  · have hBX := below_set3 (below_ext hB0 v) (show w.heap.size ≤ w.heap.size + 1 + 1 by omega) (I d0) (I b.x) (I b.a)
    obtain ⟨j0, j1, j2, _, _, _⟩ := (q2.set3 (I d0) (I b.x) (I b.a)).row
    go_wp2
    exact bodyPost_ret (v := A3 d0 b.x b.a) (by simp [results, Tryz.f66, go_sem, j0, j1, j2]) rfl ⟨rfl, hBX⟩
  · have hBX := below_set3 (below_ext hB0 v) (show w.heap.size ≤ w.heap.size + 1 + 1 by omega) (I d1) (I b.y) (I b.b)
    obtain ⟨j0, j1, j2, _, _, _⟩ := (q2.set3 (I d1) (I b.y) (I b.b)).row
    go_wp2
    exact bodyPost_ret (v := A3 d1 b.y b.b) (by simp [results, Tryz.f66, go_sem, j0, j1, j2]) rfl ⟨rfl, hBX⟩
  · have hBX := below_set3 (below_ext hB0 v) (show w.heap.size ≤ w.heap.size + 1 + 1 by omega) (I d2) (I b.z) (I b.c)
    obtain ⟨j0, j1, j2, _, _, _⟩ := (q2.set3 (I d2) (I b.z) (I b.c)).row
    go_wp2
    exact bodyPost_ret (v := A3 d2 b.z b.c) (by simp [results, Tryz.f66, go_sem, j0, j1, j2]) rfl ⟨rfl, hBX⟩

theorem side_any (d0 d1 d2 x y z a b c : Int) (k : Fin 3) (w : World) :
    Calls Tryz.prog 66 #[A3 d0 d1 d2, .agg #[I x, I y, I z, I a, I b, I c], I (axI k)] w fun e W' => e = .returned (A3 (dimAt d0 d1 d2 k) (dimAt x y z k) (dimAt a b c k)) ∧ Below w.heap.size w W' :=
  side_calls d0 d1 d2 ⟨x, y, z, a, b, c⟩ k w

end Go.Proofs.YtbedhpooeabehaaGreatDoor

/-
  box.along and the four closures that it is handed; box.check, of one box and of two.
-/
namespace Go.Proofs.YtbedhpooeabehaaGreatDoor
open Go.RowKit Go.Shelf

attribute [local go_sem] Oper.semAt_some ext_const

/-- A closure answers p of each axis, in every world that keeps what lay in w. -/
def Answers (f : FuncId) (caps : Array Value) (w : World) (p : Fin 3 → Bool) : Prop :=
  ∀ (x : Ext w) (k : Fin 3), Calls Tryz.prog f (#[I (axI k)] ++ caps) x.wd fun e W' => e = .returned (.bool (p k)) ∧ Below x.wd.heap.size x.wd W'

set_option maxRecDepth 100000 in
set_option maxHeartbeats 2000000 in
theorem along_ck {f : FuncId} {caps : Array Value} {p : Fin 3 → Bool} (w : World) (hf : f = 78 ∧ ∃ a b, caps = #[a, b]) (h : Answers f caps w p) :
    Calls Tryz.prog 77 #[.func (.func f) #[] caps] w fun e W' => e = .returned (.bool (p 0 && p 1 && p 2)) ∧ Below w.heap.size w W' := by
  have H : Hid (Answers f caps w p) := h
  clear h
  obtain ⟨rfl, a, b, rfl⟩ := hf
  all_goals
    go_enter Tryz.func77, Tryz.ntmps77
    go_wp2
    go_loopw [4] (fun i wr => ((i = .int .i64 0 ∧ True) ∨ (i = .int .i64 1 ∧ p 0 = true) ∨ (i = .int .i64 2 ∧ p 0 = true ∧ p 1 = true) ∨ (i = .int .i64 3 ∧ p 0 = true ∧ p 1 = true ∧ p 2 = true)) ∧ Below w.heap.size w wr) (fun i _ => 3 - (RowKit.intOf i).toNat)
    case atStart => exact ⟨.inl ⟨rfl, trivial⟩, Below.refl _ _⟩
    case round =>
      obtain ⟨hi, hT⟩ := hrel
      rcases hi with ⟨rfl, _⟩ | ⟨rfl, h0⟩ | ⟨rfl, h0, h1⟩ | ⟨rfl, h0, h1, h2⟩
      · go_wp2_with fail
        refine (H.out ⟨wr, hT⟩ 0).mono ?_
        rintro e w1 ⟨rfl, hB⟩
        cases hp : p 0
        · go_wp2
          go_ret
          exact ⟨by simp [hp], then_below hT hB⟩
        · go_wp2
          go_roundw
          case rel => exact ⟨.inr (.inl ⟨rfl, hp⟩), then_below hT hB⟩
          case measure => simp [RowKit.intOf]
      · go_wp2_with fail
        refine (H.out ⟨wr, hT⟩ 1).mono ?_
        rintro e w1 ⟨rfl, hB⟩
        cases hp : p 1
        · go_wp2
          go_ret
          exact ⟨by simp [hp], then_below hT hB⟩
        · go_wp2
          go_roundw
          case rel => exact ⟨.inr (.inr (.inl ⟨rfl, h0, hp⟩)), then_below hT hB⟩
          case measure => simp [RowKit.intOf]
      · go_wp2_with fail
        refine (H.out ⟨wr, hT⟩ 2).mono ?_
        rintro e w1 ⟨rfl, hB⟩
        cases hp : p 2
        · go_wp2
          go_ret
          exact ⟨by simp [hp], then_below hT hB⟩
        · go_wp2
          go_roundw
          case rel => exact ⟨.inr (.inr (.inr ⟨rfl, h0, h1, hp⟩)), then_below hT hB⟩
          case measure => simp [RowKit.intOf]
      · go_wp2
        go_ret
        exact ⟨by simp [h0, h1, h2], hT⟩

theorem ans_check {w : World} {D B : Nat} {d0 d1 d2 : Int} {b : Bx} (hd : Blk w D 23 #[I d0, I d1, I d2]) (hb : Blk w B 27 #[I b.x, I b.y, I b.z, I b.a, I b.b, I b.c]) :
    Answers 78 #[.pointer (some ⟨D, 0, none⟩), .pointer (some ⟨B, 0, none⟩)] w (fun k => maySB (dimAt d0 d1 d2 k) (bAt b k) (sAt b k)) := by
  intro x k
  obtain ⟨c0, c1, c2, hz⟩ := hd.three x.le
  obtain ⟨⟨k0, k1, k2⟩, ⟨k3, k4, k5⟩, hz1⟩ := hb.six x.le
  simp only [List.append_toArray, List.cons_append, List.nil_append]
  go_enter Tryz.func78, Tryz.ntmps78
  go_wp2_with fail
  refine (side_calls d0 d1 d2 b k _).mono ?_
  rintro e w1 ⟨rfl, hB1⟩
  go_wp2_with fail
  refine (maybe_calls _ _ _ _).mono ?_
  rintro e w2 ⟨rfl, hB2⟩
  go_wp2
  go_ret
  exact ⟨rfl, then_below hB1 hB2⟩

end Go.Proofs.YtbedhpooeabehaaGreatDoor

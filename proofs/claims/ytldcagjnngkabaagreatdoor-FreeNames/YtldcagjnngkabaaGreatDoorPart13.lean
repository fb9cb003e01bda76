/-
  Lists of whole numbers in memory that a call made: they stay behind what leaves old memory as it lay; tidehallref02.Ints compares two of them.
-/
import Derived.Test.YtldcagjnngkabaaGreatDoorPart3
import Derived.Test.YtldcagjnngkabaaGreatDoorProg
import Derived.OwnWalk
import Derived.Test.YtldcagjnngkabaaGreatDoorPart12
import Derived.Test.YtldcagjnngkabaaGreatDoorPart10
namespace Go.Proofs.YtldcagjnngkabaaGreatDoor
open Go Go.RowKit Go.Shelf

attribute [local go_sem] Oper.semAt_some ext_const

/-- The slice v holds the numbers xs, in a block of its own from number base on. -/
def Lst (W : World) (base : Nat) (v : Value) (xs : List Int) : Prop := W.ownsRow base 3 1 v xs.length (xs.map (Value.int .i64))

theorem Lst.nil (W : World) (base : Nat) : Lst W base (.slice none 0 0) [] := World.ownsRow_nil _ _ _ _
theorem Lst.later {W W' : World} {base : Nat} {v : Value} {xs : List Int} (h : Lst W base v xs) (hb : Below W.heap.size W W') : Lst W' base v xs := by
  obtain ⟨h1, h2⟩ := h
  refine ⟨h1, ?_⟩
  rcases h2 with h2 | ⟨g, cap, cur, e, hg, hh, r⟩
  · exact .inl h2
  · exact .inr ⟨g, cap, cur, e, hg, (hb.block g (Array.getElem?_eq_some_iff.1 hh).1).trans hh, r⟩
theorem Lst.weak {W : World} {base base' : Nat} {v : Value} {xs : List Int} (h : Lst W base v xs) (hb : base' ≤ base) : Lst W base' v xs := by
  obtain ⟨h1, h2⟩ := h
  refine ⟨h1, ?_⟩
  rcases h2 with h2 | ⟨g, cap, cur, e, hg, r⟩
  · exact .inl h2
  · exact .inr ⟨g, cap, cur, e, Nat.le_trans hb hg, r⟩

/-- What a walk asks of a list that it reads. -/
theorem Lst.view {W : World} {base : Nat} {v : Value} {xs : List Int} (h : Lst W base v xs) :
    ∃ ao cap, v = .slice ao xs.length cap ∧ ∀ k : Nat, k < xs.length → ∃ g cur, ao = some ⟨g, 0, none⟩ ∧ Blk W g 3 cur ∧ cur[k]? = some (I (xs.getD k 0)) := by
  obtain ⟨h1, h2⟩ := h
  rcases h2 with ⟨rfl, hn⟩ | ⟨g, cap, cur, rfl, hg, hh, hc, hc2, hs, ht⟩
  · exact ⟨none, 0, by rw [hn], fun k hk => by omega⟩
  · refine ⟨_, cap, rfl, fun k hk => ⟨g, cur, rfl, hh, ?_⟩⟩
    have := congrArg (fun l => l[k]?) ht
    simp only [Nat.mul_one, List.getElem?_take_of_lt hk, List.getElem?_map, Array.getElem?_toList] at this
    rw [this, List.getElem?_eq_getElem hk]
    simp [hk]

theorem info_int : (Tryz.prog.info? 3).map (fun i => (i.zero, i.size, i.bytes)) = some (some (.int .i64 0), 1, 8) := by kernel_rfl

/-- 'list = append(list, y)', the list a call's own. -/
theorem wpList_app {ops : Array Oper} {rest : List Oper} {o : Oper} {a : Act} {Q : Exit → Act → World → Prop} {W : World} {base : Nat} {v : Value} {xs : List Int} {y : Int} (hgd : o.guard = none) (s x : Operand)
    (ho : o.op = .call { callee := .builtin .append, args := #[s, x], argTypes := #[76, 76] }) (hs : a.eval s = v) (hx : a.eval x = .slice (some ⟨W.heap.size, 0, none⟩) 1 1)
    (hown : Lst W base v xs) (hl : xs.length ≤ 100000) (hb : base ≤ W.heap.size)
    (h : ∀ v' w', Lst w' base v' (xs ++ [y]) → Below base W w' → wpList Tryz.prog ops Q rest (a.put o.dst v') w') : wpList Tryz.prog ops Q (o :: rest) a (W.alloc (.cells #[.int .i64 y] 3)) := by
  obtain ⟨i0, hi, hz0, hz1, hz2⟩ := info_parts info_int
  refine wpList_append_own (w := W.alloc (.cells #[.int .i64 y] 3)) hgd s x 76 ho base 3 i0 (.int .i64 0) 1 8 Tryz.underlying76 hi hz0 hz1 hz2 rfl (by decide) v xs.length _ hs (hown.alloc _) ⟨W.heap.size, 0, none⟩ 1 1 [.int .i64 y] hx rfl ?_ ?_ ?_ ?_ ?_ ?_
  · intro j u hj
    match j, hj with
    | 0, hj => simp at hj; subst hj; simp [Addr.add]
  · intro u hu; simp at hu; subst hu; rfl
  · unfold maxLen; omega
  · omega
  · simp; omega
  · intro v' w1 hown' hgrow _
    refine h v' w1 ?_ ?_
    · unfold Lst
      rw [List.map_append, List.length_append]
      exact hown'
    · exact ((Below.refl base W).alloc hb _).grown hgrow (by simp; omega) (fun k hk => (hown.lt k hk).1)

/-- 'make([]int, 0, n)'. -/
theorem wpList_mk {ops : Array Oper} {rest : List Oper} {o : Oper} {a : Act} {Q : Exit → Act → World → Prop} {W : World} {base : Nat} (hgd : o.guard = none) (l c : Operand) (ho : o.op = Op.makeSlice 76 l c) (n : Int)
    (hl : a.eval l = .int .i64 0) (hc : a.eval c = .int .i64 n) (h0 : 0 ≤ n) (h1 : n ≤ 100000) (hb : base ≤ W.heap.size)
    (h : ∀ v' w', Lst w' base v' [] → Below base W w' → wpList Tryz.prog ops Q rest (a.put o.dst v') w') : wpList Tryz.prog ops Q (o :: rest) a W := by
  obtain ⟨i0, hi, hz0, hz1, hz2⟩ := info_parts info_int
  refine wpList_make_own W hgd l c 76 ho base 3 i0 (.int .i64 0) 1 Tryz.underlying76 hi hz0 hz1 .i64 .i64 n n.toNat hl hc (by omega) (by rw [hz2]; omega) (by unfold maxLen; omega) hb ?_
  intro w' h1 h2
  exact h _ w' h1 ((Below.refl base W).grown h2 hb (fun k hk => by cases hk))

theorem take_eq_succ {xs ys : List Int} {k : Nat} (hx : k < xs.length) (hy : k < ys.length) (h : xs.take k = ys.take k) (he : xs.getD k 0 = ys.getD k 0) : xs.take (k + 1) = ys.take (k + 1) := by
  rw [List.take_succ_eq_append_getElem hx, List.take_succ_eq_append_getElem hy, h]
  simp [hx, hy] at he
  rw [he]

end Go.Proofs.YtldcagjnngkabaaGreatDoor

/-
  The document's answer of sets of two (tidehallref03): Same, two, joined, And, Or, Less, All, Meets, Meet, Inside, In.
-/
namespace Go.Proofs.YtldcagjnngkabaaGreatDoor
open Go Go.RowKit Go.Shelf

attribute [local go_sem] Oper.semAt_some ext_const

theorem take_eq_succN {xs ys : List Nat} {k : Nat} (hx : k < xs.length) (hy : k < ys.length) (h : xs.take k = ys.take k) (he : xs.getD k 0 = ys.getD k 0) : xs.take (k + 1) = ys.take (k + 1) := by
  rw [List.take_succ_eq_append_getElem hx, List.take_succ_eq_append_getElem hy, h]
  simp [hx, hy] at he
  rw [he]

set_option maxRecDepth 100000 in
set_option maxHeartbeats 2000000 in
theorem sameS_calls {xs ys : List Nat} {u v : Value} (w : World) (hu : Wds w u xs) (hv : Wds w v ys) (hx : xs.length ≤ 100000) :
    Calls Tryz.prog 14 #[u, v] w fun e W' => e = .returned (.bool (decide (xs = ys))) ∧ Below w.heap.size w W' := by
  have hmx : Tryz.prog.follows .mixedOrders = true := by kernel_rfl
  obtain ⟨ao, cap, rfl, hA⟩ := hu.view
  obtain ⟨ao', cap', rfl, hB⟩ := hv.view
  have HA : Hid (∀ k, k < xs.length → ∃ g off, ao = some ⟨g, off, none⟩ ∧ g < w.heap.size ∧ w.cell? ⟨g, off + k, none⟩ = some (U (xs.getD k 0))) := hA
  have HB : Hid (∀ k, k < ys.length → ∃ g off, ao' = some ⟨g, off, none⟩ ∧ g < w.heap.size ∧ w.cell? ⟨g, off + k, none⟩ = some (U (ys.getD k 0))) := hB
  clear hu hv hA hB
  obtain ⟨ans, hans⟩ : ∃ ans, ans = decide (xs = ys) := ⟨_, rfl⟩
  rw [← hans]
  have HS : Hid (ans = decide (xs = ys)) := hans
  clear hans
  by_cases hl : (xs.length : Int) = ys.length
  · have hl' : ys.length = xs.length := by omega
    clear hl
    rw [hl'] at HB ⊢
    have HL : Hid (ys.length = xs.length) := hl'
    clear hl'
    go_enter Tryz.func14, Tryz.ntmps14
    go_wp2
    go_loopw [5] (fun i wr => ∃ k : Nat, k ≤ xs.length ∧ i = .int .i64 k ∧ Hid (xs.take k = ys.take k) ∧ Below w.heap.size w wr) (fun i _ => xs.length - (RowKit.intOf i).toNat)
    case atStart => exact ⟨0, by omega, rfl, by show _ = _; simp, Below.refl _ _⟩
    case round =>
      obtain ⟨k, hk, rfl, HT, hT⟩ := hrel
      by_cases hlt : (k : Int) < (xs.length : Int)
      · have hkx : k < xs.length := by omega
        obtain ⟨g, off, rfl, hg, hc⟩ := HA.out k hkx
        obtain ⟨g', off', rfl, hg', hc'⟩ := HB.out k hkx
        have e0 : ∀ x : Ext wr, x.wd.cell? ⟨g, off + k, none⟩ = some (U (xs.getD k 0)) := fun x => ((below_ext hT x).cell (p := ⟨g, off + k, none⟩) hg).trans hc
        have e1 : ∀ x : Ext wr, x.wd.cell? ⟨g', off' + k, none⟩ = some (U (ys.getD k 0)) := fun x => ((below_ext hT x).cell (p := ⟨g', off' + k, none⟩) hg').trans hc'
        have HE : Hid (xs.getD k 0 = ys.getD k 0 → xs.take (k + 1) = ys.take (k + 1)) := take_eq_succN hkx (by have := HL.out; omega) HT.out
        have HD : Hid (xs.getD k 0 ≠ ys.getD k 0 → ans = false) := fun hne => by rw [HS.out, decide_eq_false_iff_not]; intro he; exact hne (by rw [he])
        clear hg hg' hc hc'
        generalize xs.getD k 0 = x at e0 HE HD
        generalize ys.getD k 0 = y at e1 HE HD
        cases hq : ((x : Int) != (y : Int))
        · go_wp2
          refine wp_region_look hmx (by kernel_rfl) ?_
          repeat (go_big_quiet_step (fail))
          refine wpQuiet_nil ?_
          intro v
          go_wp2
          go_roundw
          case rel => exact ⟨k + 1, by omega, by go_num, HE.out (Int.ofNat_inj.1 (by simpa using hq)), then_below hT v.le⟩
          case measure => simp [RowKit.intOf]; omega
        · go_wp2
          refine wp_region_look hmx (by kernel_rfl) ?_
          repeat (go_big_quiet_step (fail))
          refine wpQuiet_nil ?_
          intro v
          go_wp2
          go_ret
          exact ⟨by rw [HD.out (fun h => by simp [h] at hq)]; rfl, then_below hT v.le⟩
      · have E : ans = true := by
          rw [HS.out, decide_eq_true_eq]
          have h1 := HT.out
          rwa [List.take_of_length_le (by omega), List.take_of_length_le (by have := HL.out; omega)] at h1
        subst E
        go_wp2
        go_ret
        exact ⟨rfl, hT⟩
  · have E : ans = false := by rw [HS.out, decide_eq_false_iff_not]; intro he; rw [he] at hl; exact hl rfl
    subst E
    go_enter Tryz.func14, Tryz.ntmps14
    go_wp2
    go_ret
    exact ⟨rfl, Below.refl _ _⟩

theorem errAll_first {n : Int} {a b : List Nat} (h : errAll n [a] ≠ 0) : errAll n [a, b] = errAll n [a] := by
  unfold errAll at h ⊢
  cases h1 : okN n <;> cases h2 : maySet n.toNat a <;> cases h3 : maySet n.toNat b <;> simp_all
theorem errAll_second {n : Int} {a b : List Nat} (h : errAll n [a] = 0) : errAll n [a, b] = errAll n [b] := by
  unfold errAll at h ⊢
  cases h1 : okN n <;> cases h2 : maySet n.toNat a <;> cases h3 : maySet n.toNat b <;> simp_all

def pick3 (c1 c2 c3 x y : Bool) : Bool := x && y && c1 || x && !y && c2 || !x && y && c3

theorem upto_yes {p : Nat → Bool} {k : Nat} (h : p k = true) (j : Nat) : (decide (j < k + 1) && p j) = ((decide (j < k) && p j) || decide (j = k)) := by
  by_cases e : j = k
  · subst e; simp [h]
  · have : decide (j < k + 1) = decide (j < k) := by rw [decide_eq_decide]; omega
    rw [this]; simp [e]
theorem upto_no {p : Nat → Bool} {k : Nat} (h : p k = false) (j : Nat) : (decide (j < k + 1) && p j) = (decide (j < k) && p j) := by
  by_cases e : j = k
  · subst e; simp [h]
  · have : decide (j < k + 1) = decide (j < k) := by rw [decide_eq_decide]; omega
    rw [this]

/-- The bit that is put, as the program reckons it. -/
theorem shl_bit (j : Nat) (hj : j < 64) : IntKind.u64.wrap ((2 : Int) ^ j) = 2 ^ j := by
  rw [IntKind.wrap_u64]
  have : 2 ^ j < 2 ^ 64 := Nat.pow_lt_pow_right (by omega) hj
  have e : ((2 : Int) ^ j) = ((2 ^ j : Nat) : Int) := by norm_cast
  rw [e]
  generalize 2 ^ j = y at *
  omega
theorem or_bit (x j : Nat) (hx : x < 18446744073709551616) (hj : j < 64) : bits .or .u64 (x : Int) ((2 : Int) ^ j) = ((x ||| 2 ^ j : Nat) : Int) := by
  have e : ((2 : Int) ^ j) = ((2 ^ j : Nat) : Int) := by norm_cast
  rw [e]
  exact u64_or_nat x (2 ^ j) hx (show 2 ^ j < 2 ^ 64 from Nat.pow_lt_pow_right (by omega) hj)

end Go.Proofs.YtldcagjnngkabaaGreatDoor

/-
  The set of some numbers: set.Of, tidehallref03.From, tidehallref03.Of.
-/
namespace Go.Proofs.YtldcagjnngkabaaGreatDoor
open Go Go.RowKit Go.Shelf

attribute [local go_sem] Oper.semAt_some ext_const

/-- A number is in a list. -/
def inL (l : List Int) (j : Nat) : Bool := l.contains (j : Int)
/-- The numbers of a list are all below n, and n may be. -/
def ofOk (n : Int) (l : List Int) : Bool := okN n && l.all fun x => decide (0 ≤ x ∧ x < n)
def ofErr (n : Int) (l : List Int) : Int := if ofOk n l then 0 else 2
structure OfIs (n : Int) (l : List Int) (ws : List Nat) : Prop where
  yes : ofOk n l = true → IsSet ((n.toNat + 63) / 64) ws (fun j => inL l j)
  no : ofOk n l = false → ws = []
theorem OfIs.ext {n : Int} {l : List Int} {a b : List Nat} (ha : OfIs n l a) (hb : OfIs n l b) : a = b := by
  cases h : ofOk n l
  · rw [ha.no h, hb.no h]
  · exact (ha.yes h).ext (hb.yes h)

theorem take_has {l : List Int} {i k : Nat} (hi : i < l.length) (hk : l.getD i 0 = (k : Int)) (j : Nat) : inL (l.take (i + 1)) j = (inL (l.take i) j || decide (j = k)) := by
  unfold inL
  rw [List.take_succ_eq_append_getElem hi]
  have : l[i] = (k : Int) := by simpa [hi] using hk
  rw [this, Bool.eq_iff_iff]
  have e : ((j : Int) = (k : Int)) ↔ j = k := Int.ofNat_inj
  simp [e]
theorem ofOk_no {n : Int} {l : List Int} {i : Nat} (hi : i < l.length) (h : ¬ (0 ≤ l.getD i 0 ∧ l.getD i 0 < n)) : ofOk n l = false := by
  cases e : ofOk n l
  · rfl
  · unfold ofOk at e
    rw [Bool.and_eq_true] at e
    have := List.all_eq_true.1 e.2 (l[i]) (List.getElem_mem hi)
    simp [hi] at h
    simp at this
    omega
theorem ofOk_yes {n : Nat} {l : List Int} (hn : 1 ≤ n ∧ n ≤ 12288) (h : ∀ i, i < l.length → 0 ≤ l.getD i 0 ∧ l.getD i 0 < n) : ofOk n l = true := by
  unfold ofOk
  rw [show okN n = true by simp [okN]; omega, Bool.true_and, List.all_eq_true]
  intro x hx
  obtain ⟨i, hi, rfl⟩ := List.mem_iff_getElem.1 hx
  have := h i hi
  simp [hi] at this
  simpa using this

set_option maxRecDepth 100000 in
set_option maxHeartbeats 4000000 in
theorem of_calls {v : Value} {l : List Int} (w : World) (hv : Its w v l) (hl : l.length ≤ 65536) (n : Int) :
    Calls Tryz.prog 128 #[I n, v] w fun e W' => ∃ u ws, e = .returned (.tuple #[u, I (ofErr n l)]) ∧ SetR W' w.heap.size u ws ∧ OfIs n l ws ∧ Below w.heap.size w W' := by
  have hmx : Tryz.prog.follows .mixedOrders = true := by kernel_rfl
  obtain ⟨ao, cap, rfl, hv'⟩ := hv.view
  have HV : Hid (∀ k, k < l.length → ∃ g off, ao = some ⟨g, off, none⟩ ∧ g < w.heap.size ∧ w.cell? ⟨g, off + k, none⟩ = some (I (l.getD k 0))) := hv'
  clear hv hv'
  have C : Calls Tryz.prog 85 #[I n, .slice none 0 0] w fun e W' => e = .returned (I (errAll n [])) ∧ W' = w :=
    check_calls (vs := []) (wss := []) w (Sl.nil w) rfl (by simp) (fun i hi => by simp at hi) n
  obtain ⟨er, her⟩ : ∃ er, er = ofErr n l := ⟨_, rfl⟩
  rw [← her]
  have HE : Hid (er = ofErr n l) := her
  clear her
  by_cases hn : 1 ≤ n ∧ n ≤ 12288
  · obtain ⟨m, rfl⟩ : ∃ m : Nat, n = m := ⟨n.toNat, by omega⟩
    rw [errAll_ok (by omega) (fun k hk => by simp at hk)] at C
    have hL : ∀ k, k < m → k / 64 < (m + 63) / 64 := fun k hk => by omega
    have hl2 : (m + 63) / 64 ≤ 192 := by omega
    have WC := fun w => words_calls m w (by omega)
    have HO : Hid (∀ ws, IsSet ((m + 63) / 64) ws (fun j => inL l j) → ofOk m l = true → OfIs m l ws) := fun ws h1 h2 => ⟨fun _ => by rw [Int.toNat_natCast]; exact h1, fun h => by rw [h2] at h; cases h⟩
    have HN : Hid (ofOk m l = false → OfIs m l []) := fun h => ⟨fun h2 => (by rw [h] at h2; cases h2), fun _ => rfl⟩
    obtain ⟨h1, h2⟩ := hn
    obtain ⟨L, hLe⟩ : ∃ L, L = (m + 63) / 64 := ⟨_, rfl⟩
    rw [← hLe] at hL hl2 WC HO
    clear hLe
    have HL : Hid (∀ k, k < m → k / 64 < L) := hL
    clear hL
    go_enter Tryz.func128, Tryz.ntmps128
    go_wp2_with fail
    refine C.mono ?_
    rintro e w1 ⟨rfl, hw⟩
    subst hw
    go_wp2_with fail
    refine (WC _).mono ?_
    rintro e w2 ⟨rfl, hw⟩
    subst hw
    clear WC C
    go_wp2_with (at_make; refine wpList_mkW rfl _ _ rfl L rfl rfl (by omega) ?_; intro w3 hK hT)
    have hJ : IsSet L (List.replicate L 0) (fun j => inL (l.take 0) j) := (IsSet.none L).congr (fun j => by simp [inL])
    obtain ⟨g, hg⟩ : ∃ g, g = w2.heap.size := ⟨_, rfl⟩
    rw [← hg] at hK
    rw [← hg]
    have hg' : w2.heap.size ≤ g := by omega
    clear hg
    go_wp2
    go_loopw [23] (fun i wr => ∃ (k : Nat) (cs : List Nat), k ≤ l.length ∧ i = .int .i64 k ∧ IsSet L cs (fun j => inL (l.take k) j) ∧ Hid (∀ i, i < k → 0 ≤ l.getD i 0 ∧ l.getD i 0 < (m : Int)) ∧ Blk wr g 34 (cs.map U).toArray ∧ Below w2.heap.size w2 wr) (fun i _ => l.length - (RowKit.intOf i).toNat)
    case atStart => exact ⟨0, _, by omega, rfl, hJ, fun i hi => by omega, hK, hT⟩
    case round =>
      clear hJ hK hT
      obtain ⟨k, cs, hk, rfl, hJ, HR, hbk, hB⟩ := hrel
      by_cases hlt : (k : Int) < (l.length : Int)
      · have hkl : k < l.length := by omega
        obtain ⟨gl, ol, rfl, hgl, hcl⟩ := HV.out k hkl
        have hcl := (hB.cell (p := ⟨gl, ol + k, none⟩) hgl).trans hcl
        by_cases hin : 0 ≤ l.getD k 0 ∧ l.getD k 0 < (m : Int)
        · obtain ⟨y, hy⟩ : ∃ y : Nat, l.getD k 0 = (y : Int) := ⟨(l.getD k 0).toNat, by omega⟩
          have HR2 : Hid (∀ i, i < k + 1 → 0 ≤ l.getD i 0 ∧ l.getD i 0 < (m : Int)) := fun i hi => by
            rcases Nat.lt_succ_iff_lt_or_eq.1 hi with hi | rfl
            · exact HR.out i hi
            · exact hin
          rw [hy] at hcl hin
          obtain ⟨hin0, hin1⟩ := hin
          have hyl := HL.out y (by omega)
          have hyi : (y : Int) / 64 < (L : Int) := by omega
          have hlen := hJ.len
          have hword := getD_lt hJ.word (y / 64)
          have e0 : ∀ x : Ext wr, x.wd.cell? ⟨g, y / 64, none⟩ = some (U (cs.getD (y / 64) 0)) := fun x => blk_get (hbk.later x.le) (by rw [hlen]; exact hyl)
          have f0 : ∀ x : Ext wr, x.wd.frozen? ⟨g, y / 64, none⟩ = false := fun x => (hbk.later x.le).frozen _
          have HBK : Hid (∀ x : Ext wr, Blk (x.wd.setCell ⟨g, y / 64, none⟩ (U (cs.getD (y / 64) 0 ||| 2 ^ (y % 64)))) g 34 ((putW cs y).map U).toArray) := fun x => blk_put (hbk.later x.le) (y / 64) _
          have HPU : Hid (IsSet L (putW cs y) (fun j => inL (l.take (k + 1)) j)) := hJ.put hyl (take_has hkl hy)
          have hsb := shl_bit (y % 64) (Nat.mod_lt y (by omega))
          have hlor := or_bit _ (y % 64) hword (Nat.mod_lt y (by omega))
          clear hJ hbk hlen hy
          generalize cs.getD (y / 64) 0 ||| 2 ^ (y % 64) = z at *
          generalize cs.getD (y / 64) 0 = x0 at *
          go_wp2
          refine wp_region_tail 10 hmx (by kernel_rfl) ?_
          simp only [List.take_succ_cons, List.take_zero, List.drop_succ_cons, List.drop_zero]
          repeat (go_big_quiet_step (fail))
          refine wpQuiet_nil ?_
          intro x
          have c1 := e0 x
          have f1 := f0 x
          gi_wp2
          try rw [hsb]
          try rw [hlor]
          have hK := HBK.out x
          have hBX := (below_ext hB x).setCell (p := ⟨g, y / 64, none⟩) hg' (U z)
          generalize x.wd.setCell ⟨g, y / 64, none⟩ (U z) = W5 at *
          clear c1 f1 e0 f0
          go_wp2
          go_roundw
          case rel => exact ⟨k + 1, _, by omega, by go_num, HPU.out, HR2, hK, hBX⟩
          case measure => simp [RowKit.intOf]; omega
        · have hno := ofOk_no hkl hin
          have E : er = 2 := by rw [HE.out, ofErr, hno]; rfl
          subst E
          have HNN := HN.out hno
          clear hJ hbk hno
          generalize l.getD k 0 = y at *
          by_cases hy0 : y < 0
          · go_wp2
            go_ret2
            first | exact ⟨_, rfl, _, .inr ⟨rfl, rfl⟩, HNN, hB⟩ | exact ⟨_, _, rfl, .inr ⟨rfl, rfl⟩, HNN, hB⟩
          · have hy1 : (m : Int) ≤ y := by omega
            clear hin
            go_wp2
            go_ret2
            first | exact ⟨_, rfl, _, .inr ⟨rfl, rfl⟩, HNN, hB⟩ | exact ⟨_, _, rfl, .inr ⟨rfl, rfl⟩, HNN, hB⟩
      · have e : k = l.length := by omega
        subst e
        have hok := ofOk_yes ⟨by omega, by omega⟩ HR.out
        have E : er = 0 := by rw [HE.out, ofErr, hok]; rfl
        subst E
        rw [List.take_length] at hJ
        have hO := HO.out cs hJ hok
        have hR : SetR wr w2.heap.size (.slice (some ⟨g, 0, none⟩) L L) cs := .inl ⟨hJ.word, g, by rw [hJ.len], hg', hbk⟩
        clear hbk hJ hok
        go_wp2
        go_ret2
        first | exact ⟨_, rfl, _, hR, hO, hB⟩ | exact ⟨_, _, rfl, hR, hO, hB⟩
  · rw [errAll_bad hn] at C
    have hno : ofOk n l = false := by unfold ofOk okN; rw [decide_eq_false hn]; rfl
    have E : er = 2 := by rw [HE.out, ofErr, hno]; rfl
    subst E
    have HNN : OfIs n l [] := ⟨fun h2 => (by rw [hno] at h2; cases h2), fun _ => rfl⟩
    clear hno hn
    go_enter Tryz.func128, Tryz.ntmps128
    go_wp2_with fail
    refine C.mono ?_
    rintro e w1 ⟨rfl, hw⟩
    subst hw
    go_wp2
    go_ret2
    first | exact ⟨_, rfl, _, .inr ⟨rfl, rfl⟩, HNN, Below.refl _ _⟩ | exact ⟨_, _, rfl, .inr ⟨rfl, rfl⟩, HNN, Below.refl _ _⟩

set_option maxRecDepth 100000 in
set_option maxHeartbeats 4000000 in
theorem from_calls {v : Value} {l : List Int} (w : World) (hv : Its w v l) (hl : l.length ≤ 65536) (m : Nat) (h1 : 1 ≤ m) (h2 : m ≤ 12288) (hall : ∀ i, i < l.length → 0 ≤ l.getD i 0 ∧ l.getD i 0 < (m : Int)) :
    Calls Tryz.prog 75 #[I m, v] w fun e W' => ∃ u ws, e = .returned u ∧ Set1 W' w.heap.size u ws ∧ IsSet ((m + 63) / 64) ws (fun j => inL l j) ∧ Below w.heap.size w W' := by
  have hmx : Tryz.prog.follows .mixedOrders = true := by kernel_rfl
  obtain ⟨ao, cap, rfl, hv'⟩ := hv.view
  have HV : Hid (∀ k, k < l.length → ∃ g off, ao = some ⟨g, off, none⟩ ∧ g < w.heap.size ∧ w.cell? ⟨g, off + k, none⟩ = some (I (l.getD k 0))) := hv'
  have HA : Hid (∀ i, i < l.length → 0 ≤ l.getD i 0 ∧ l.getD i 0 < (m : Int)) := hall
  clear hv hv' hall
  have hL : ∀ k, k < m → k / 64 < (m + 63) / 64 := fun k hk => by omega
  have hl2 : (m + 63) / 64 ≤ 192 := by omega
  have hwl : ((m : Int) + 63) / 64 = (((m + 63) / 64 : Nat) : Int) := by omega
  obtain ⟨L, hLe⟩ : ∃ L, L = (m + 63) / 64 := ⟨_, rfl⟩
  rw [← hLe] at hL hl2 hwl ⊢
  clear hLe
  have HL : Hid (∀ k, k < m → k / 64 < L) := hL
  clear hL
  go_enter Tryz.func75, Tryz.ntmps75
  go_wp2_with (at_make; refine wpList_mkW rfl _ _ rfl L (congrArg (Value.int IntKind.i64) hwl) (congrArg (Value.int IntKind.i64) hwl) (by omega) ?_; intro w3 hK hT)
  have hJ : IsSet L (List.replicate L 0) (fun j => inL (l.take 0) j) := (IsSet.none L).congr (fun j => by simp [inL])
  obtain ⟨g, hg⟩ : ∃ g, g = w.heap.size := ⟨_, rfl⟩
  rw [← hg] at hK
  rw [← hg]
  have hg' : w.heap.size ≤ g := by omega
  clear hg
  go_wp2
  go_loopw [6] (fun i wr => ∃ (k : Nat) (cs : List Nat), k ≤ l.length ∧ i = .int .i64 k ∧ IsSet L cs (fun j => inL (l.take k) j) ∧ Blk wr g 34 (cs.map U).toArray ∧ Below w.heap.size w wr) (fun i _ => l.length - (RowKit.intOf i).toNat)
  case atStart => exact ⟨0, _, by omega, rfl, hJ, hK, hT⟩
  case round =>
    clear hJ hK hT
    obtain ⟨k, cs, hk, rfl, hJ, hbk, hB⟩ := hrel
    by_cases hlt : (k : Int) < (l.length : Int)
    · have hkl : k < l.length := by omega
      obtain ⟨gl, ol, rfl, hgl, hcl⟩ := HV.out k hkl
      have hin := HA.out k hkl
      obtain ⟨y, hy⟩ : ∃ y : Nat, l.getD k 0 = (y : Int) := ⟨(l.getD k 0).toNat, by omega⟩
      rw [hy] at hcl hin
      obtain ⟨hin0, hin1⟩ := hin
      have hyl := HL.out y (by omega)
      have hyi : (y : Int) / 64 < (L : Int) := by omega
      have hlen := hJ.len
      have hword := getD_lt hJ.word (y / 64)
      have TH := there_calls wr (v := .slice (some ⟨g, 0, none⟩) L L) (ws := cs) (by
        have := (show Set1 wr w.heap.size (.slice (some ⟨g, 0, none⟩) L L) cs from ⟨hJ.word, g, by rw [hlen], hg', hbk⟩).wds
        exact this) y (by omega)
      have hcr := (hB.cell (p := ⟨gl, ol + k, none⟩) hgl).trans hcl
      have hcw : ∀ x : Ext wr, x.wd.cell? ⟨gl, ol + k, none⟩ = some (I (y : Int)) := fun x => ((below_ext hB x).cell (p := ⟨gl, ol + k, none⟩) hgl).trans hcl
      have e0 : ∀ x : Ext wr, x.wd.cell? ⟨g, y / 64, none⟩ = some (U (cs.getD (y / 64) 0)) := fun x => blk_get (hbk.later x.le) (by rw [hlen]; exact hyl)
      have f0 : ∀ x : Ext wr, x.wd.frozen? ⟨g, y / 64, none⟩ = false := fun x => (hbk.later x.le).frozen _
      have HBK : Hid (∀ x : Ext wr, Blk (x.wd.setCell ⟨g, y / 64, none⟩ (U (cs.getD (y / 64) 0 ||| 2 ^ (y % 64)))) g 34 ((putW cs y).map U).toArray) := fun x => blk_put (hbk.later x.le) (y / 64) _
      have HPU : Hid (IsSet L (putW cs y) (fun j => inL (l.take (k + 1)) j)) := hJ.put hyl (take_has hkl hy)
      have HST : Hid (hasW cs y = true → IsSet L cs (fun j => inL (l.take (k + 1)) j)) := fun h => hJ.congr fun j => by
        rw [take_has hkl hy, ← hJ.has j]
        by_cases e : j = y
        · subst e; simp [h]
        · simp [e]
      have hsb := shl_bit (y % 64) (Nat.mod_lt y (by omega))
      have HLO : Hid (hasW cs y = false → IntKind.u64.wrap (((cs.getD (y / 64) 0 : Nat) : Int) + 2 ^ (y % 64)) = ((cs.getD (y / 64) 0 ||| 2 ^ (y % 64) : Nat) : Int)) := fun h => by
        have h3 : (cs.getD (y / 64) 0).testBit (y % 64) = false := h
        have h4 := or_lt _ (y % 64) hword (Nat.mod_lt y (by omega))
        rw [← add_or h3] at h4 ⊢
        rw [IntKind.wrap_u64, show ((2 : Int) ^ (y % 64)) = ((2 ^ (y % 64) : Nat) : Int) by norm_cast]
        generalize 2 ^ (y % 64) = zz at *
        omega
      have HBKK : Hid (Blk wr g 34 (cs.map U).toArray) := hbk
      clear hJ hbk hlen hy hcl
      generalize cs.getD (y / 64) 0 ||| 2 ^ (y % 64) = z at *
      generalize cs.getD (y / 64) 0 = x0 at *
      generalize hasW cs y = q at *
      go_wp2_with fail
      refine TH.mono ?_
      rintro e w4 ⟨rfl, hw⟩
      subst hw
      clear TH
      cases q
      · have hlo := HLO.out rfl
        go_wp2
        refine wp_region_tail 16 hmx (by kernel_rfl) ?_
        simp only [List.take_succ_cons, List.take_zero, List.drop_succ_cons, List.drop_zero]
        repeat (go_big_quiet_step (fail))
        refine wpQuiet_nil ?_
        intro x
        have c1 := e0 x
        have f1 := f0 x
        gi_wp2
        try rw [hsb]
        try rw [hlo]
        have hK := HBK.out x
        have hBX := (below_ext hB x).setCell (p := ⟨g, y / 64, none⟩) hg' (U z)
        generalize x.wd.setCell ⟨g, y / 64, none⟩ (U z) = W5 at *
        clear c1 f1 e0 f0 hcw
        go_wp2
        go_roundw
        case rel => exact ⟨k + 1, _, by omega, by go_num, HPU.out, hK, hBX⟩
        case measure => simp [RowKit.intOf]; omega
      · have HE : Hid _ := HST.out rfl
        clear e0 f0 hcw
        go_wp2
        go_roundw
        case rel => exact ⟨k + 1, cs, by omega, by go_num, HE.out, HBKK.out, hB⟩
        case measure => simp [RowKit.intOf]; omega
    · have e : k = l.length := by omega
      subst e
      rw [List.take_length] at hJ
      have hR : Set1 wr w.heap.size (.slice (some ⟨g, 0, none⟩) L L) cs := ⟨hJ.word, g, by rw [hJ.len], hg', hbk⟩
      clear hbk
      go_wp2
      go_ret
      first | exact ⟨_, rfl, _, hR, hJ, hB⟩ | exact ⟨_, _, rfl, hR, hJ, hB⟩

end Go.Proofs.YtldcagjnngkabaaGreatDoor

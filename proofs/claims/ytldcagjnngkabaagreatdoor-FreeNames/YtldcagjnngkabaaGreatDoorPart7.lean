/-
  slices.IndexFunc and slices.ContainsFunc over slots, cal.free and its closure, cal.Free: what each call answers.
-/
import Derived.Test.YtldcagjnngkabaaGreatDoorPart5
import Derived.Test.YtldcagjnngkabaaGreatDoorPart6
namespace Go.Proofs.YtldcagjnngkabaaGreatDoor
open Go Go.RowKit Go.Shelf

attribute [local go_sem] Oper.semAt_some ext_const

/-- The closure of free: whether a slot meets the span that it was made with. -/
theorem freec_calls {w : World} {A : Nat} {f t o x y : Int} (hm : maySp f t) (hs : maySp x y) (ha : Blk w A 36 (C2 x y)) : Calls Tryz.prog 122 #[V3 f t o, .pointer (some ⟨A, 0, none⟩)] w fun e W' => e = .returned (.bool (meetsT f t x y)) ∧ Below w.heap.size w W' := by
  have H : Hid (∀ w, Calls Tryz.prog 123 #[S2 f t, S2 x y] w fun e W' => e = .returned (.tuple #[.bool (meetsT f t x y), I 0]) ∧ Below w.heap.size w W') := fun w => tmeet_yes w hm hs
  have hB : Below w.heap.size w (w.alloc (.cells (C3 f t o) 85)) := (Below.refl _ w).alloc (Nat.le_refl _) _
  obtain ⟨c0, c1, hz⟩ := ha.pair (Below.refl _ _)
  generalize meetsT f t x y = r at *
  clear hm hs ha
  go_enter Tryz.func122, Tryz.ntmps122
  go_wp2_with fail
  refine (H.out _).mono ?_
  rintro e w1 ⟨rfl, hB1⟩
  go_wp2
  go_ret
  exact ⟨rfl, then_below hB hB1⟩

def meetAny (xs : List Slt) (x y : Int) : Bool := !clearC xs x y
/-- The first slot that meets a span, or -1. -/
def firstM (xs : List Slt) (x y : Int) : Int := match xs.findIdx? fun s => meetsT s.1 s.2.1 x y with | some i => i | none => -1
theorem firstM_at {xs : List Slt} {x y f t o : Int} {k : Nat} (hk : k < xs.length) (hu : xs.getD k (0, 0, 0) = (f, t, o)) (h0 : ∀ j, j < k → meetsT (xs.getD j (0, 0, 0)).1 (xs.getD j (0, 0, 0)).2.1 x y = false) (hm : meetsT f t x y = true) : firstM xs x y = k := by
  have : xs.findIdx? (fun s => meetsT s.1 s.2.1 x y) = some k := by
    rw [List.findIdx?_eq_some_iff_getElem]
    have hs : xs[k] = (f, t, o) := by simpa [hk] using hu
    refine ⟨hk, by rw [hs]; exact hm, fun j hj => ?_⟩
    have := h0 j hj
    simp [show j < xs.length by omega] at this
    simp [this]
  unfold firstM
  rw [this]
theorem firstM_none {xs : List Slt} {x y : Int} (h0 : ∀ j, j < xs.length → meetsT (xs.getD j (0, 0, 0)).1 (xs.getD j (0, 0, 0)).2.1 x y = false) : firstM xs x y = -1 := by
  have : xs.findIdx? (fun s => meetsT s.1 s.2.1 x y) = none := by
    rw [List.findIdx?_eq_none_iff]
    intro s hs
    obtain ⟨i, hi, rfl⟩ := List.mem_iff_getElem.1 hs
    have := h0 i hi
    simp [hi] at this
    simp [this]
  unfold firstM
  rw [this]
theorem firstM_any (xs : List Slt) (x y : Int) : decide (0 ≤ firstM xs x y) = meetAny xs x y := by
  unfold firstM meetAny clearC
  cases h : xs.findIdx? fun s => meetsT s.1 s.2.1 x y with
  | some i =>
    obtain ⟨hi, hm, _⟩ := List.findIdx?_eq_some_iff_getElem.1 h
    have : xs.all (fun s => !meetsT s.1 s.2.1 x y) = false := by
      rw [List.all_eq_false]
      exact ⟨xs[i], List.getElem_mem hi, by simpa using hm⟩
    rw [this]
    simp
  | none =>
    have : xs.all (fun s => !meetsT s.1 s.2.1 x y) = true := by
      rw [List.all_eq_true]
      intro s hs
      have := List.findIdx?_eq_none_iff.1 h s hs
      simpa using this
    rw [this]
    simp

set_option maxRecDepth 100000 in
set_option maxHeartbeats 4000000 in
theorem index_calls {xs : List Slt} {v : Value} {w : World} {A : Nat} {x y : Int} (hS : Ss w v xs) (hn : xs.length ≤ 100000) (hm : ∀ s ∈ xs, maySl s) (hs : maySp x y) (ha : Blk w A 36 (C2 x y)) :
    Calls Tryz.prog 154 #[v, .func (.func 122) #[] #[.pointer (some ⟨A, 0, none⟩)]] w fun e W' => e = .returned (I (firstM xs x y)) ∧ Below w.heap.size w W' := by
  obtain ⟨ao, cap, rfl, hS⟩ := hS.form
  have HS : Hid (Ss w (.slice ao xs.length cap) xs) := hS
  have HA : Hid (Blk w A 36 (C2 x y)) := ha
  have HC : Hid (∀ (w : World) (f t o : Int), maySp f t → Blk w A 36 (C2 x y) → Calls Tryz.prog 122 #[V3 f t o, .pointer (some ⟨A, 0, none⟩)] w fun e W' => e = .returned (.bool (meetsT f t x y)) ∧ Below w.heap.size w W') := fun w f t o h1 h2 => freec_calls h1 hs h2
  have HM : Hid (∀ k, k < xs.length → maySl (xs.getD k (0, 0, 0))) := fun k hk => hm _ (by simp [hk])
  have H1 : Hid (∀ (k : Nat) (f t o : Int), k < xs.length → xs.getD k (0, 0, 0) = (f, t, o) → (∀ j, j < k → meetsT (xs.getD j (0, 0, 0)).1 (xs.getD j (0, 0, 0)).2.1 x y = false) → meetsT f t x y = true → firstM xs x y = k) := fun k f t o => firstM_at
  have H2 : Hid ((∀ j, j < xs.length → meetsT (xs.getD j (0, 0, 0)).1 (xs.getD j (0, 0, 0)).2.1 x y = false) → firstM xs x y = -1) := firstM_none
  generalize firstM xs x y = ans at H1 H2 ⊢
  clear hS ha hm hs
  go_enter Tryz.func154, Tryz.ntmps154
  go_wp2
  go_loopw [8] (fun i wr => ∃ k : Nat, k ≤ xs.length ∧ i = .int .i64 k ∧ Hid (∀ j, j < k → meetsT (xs.getD j (0, 0, 0)).1 (xs.getD j (0, 0, 0)).2.1 x y = false) ∧ Below w.heap.size w wr) (fun i _ => xs.length - (RowKit.intOf i).toNat)
  case atStart => exact ⟨0, by omega, rfl, fun j hj => by omega, Below.refl _ _⟩
  case round =>
    obtain ⟨k, hk, rfl, H0, hT⟩ := hrel
    by_cases hlt : (k : Int) < (xs.length : Int)
    · have hk' : k < xs.length := by omega
      obtain ⟨g, off, f, t, o, rfl, hu, ha⟩ := (HS.out.later hT).at hk'
      obtain ⟨hg, c0, c1, c2⟩ := ha.cells
      have HU : Hid (xs.getD k (0, 0, 0) = (f, t, o)) := hu
      have hmy := HM.out k hk'
      rw [hu] at hmy
      have HC1 : Hid (Calls Tryz.prog 122 #[V3 f t o, .pointer (some ⟨A, 0, none⟩)] wr fun e W' => e = .returned (.bool (meetsT f t x y)) ∧ Below wr.heap.size wr W') := HC.out wr f t o hmy.1 (HA.out.later hT)
      clear hu ha hmy
      cases hm : meetsT f t x y
      · have HJ : Hid (∀ j, j < k + 1 → meetsT (xs.getD j (0, 0, 0)).1 (xs.getD j (0, 0, 0)).2.1 x y = false) := fun j hj => by
          rcases Nat.lt_succ_iff_lt_or_eq.1 hj with h | rfl
          · exact H0.out j h
          · rw [HU.out]; exact hm
        rw [hm] at HC1
        clear hm
        go_wp2_with fail
        refine HC1.out.mono ?_
        rintro e w1 ⟨rfl, hB1⟩
        go_wp2
        go_roundw
        case rel => exact ⟨k + 1, by omega, by go_num, HJ, then_below hT hB1⟩
        case measure => simp [RowKit.intOf]; omega
      · have E : ans = k := H1.out k f t o hk' HU.out H0.out hm
        subst E
        rw [hm] at HC1
        clear hm
        go_wp2_with fail
        refine HC1.out.mono ?_
        rintro e w1 ⟨rfl, hB1⟩
        go_wp2
        go_ret
        exact ⟨rfl, then_below hT hB1⟩
    · have E : ans = -1 := H2.out fun j hj => H0.out j (by omega)
      subst E
      go_wp2
      go_ret
      exact ⟨rfl, hT⟩

theorem contains_calls {xs : List Slt} {v : Value} {w : World} {A : Nat} {x y : Int} (hS : Ss w v xs) (hn : xs.length ≤ 100000) (hm : ∀ s ∈ xs, maySl s) (hs : maySp x y) (ha : Blk w A 36 (C2 x y)) :
    Calls Tryz.prog 121 #[v, .func (.func 122) #[] #[.pointer (some ⟨A, 0, none⟩)]] w fun e W' => e = .returned (.bool (meetAny xs x y)) ∧ Below w.heap.size w W' := by
  rw [← firstM_any]
  have H : Hid (Calls Tryz.prog 154 #[v, .func (.func 122) #[] #[.pointer (some ⟨A, 0, none⟩)]] w fun e W' => e = .returned (I (firstM xs x y)) ∧ Below w.heap.size w W') := index_calls hS hn hm hs ha
  clear hS hm hs ha
  generalize firstM xs x y = r at *
  by_cases hr : 0 ≤ r
  · rw [decide_eq_true hr]
    go_enter Tryz.func121, Tryz.ntmps121
    go_wp2_with fail
    refine H.out.mono ?_
    rintro e w1 ⟨rfl, hT⟩
    go_wp2
    go_ret
    exact ⟨rfl, hT⟩
  · rw [decide_eq_false hr]
    have hr : decide (0 ≤ r) = false := decide_eq_false hr
    go_enter Tryz.func121, Tryz.ntmps121
    go_wp2_with fail
    refine H.out.mono ?_
    rintro e w1 ⟨rfl, hT⟩
    go_wp2
    go_ret
    exact ⟨rfl, hT⟩

theorem free_calls {xs : List Slt} {v : Value} {x y : Int} (w : World) (hS : Ss w v xs) (hn : xs.length ≤ 100000) (hm : ∀ s ∈ xs, maySl s) (hs : maySp x y) :
    Calls Tryz.prog 92 #[v, S2 x y] w fun e W' => e = .returned (.bool (clearC xs x y)) ∧ Below w.heap.size w W' := by
  have hB := (Below.refl _ w).alloc (Nat.le_refl _) (.cells (C2 x y) 36)
  have H := contains_calls (hS.later hB) hn hm hs (Blk.new w 36 (C2 x y))
  have H : Hid (Calls Tryz.prog 121 #[v, .func (.func 122) #[] #[.pointer (some ⟨w.heap.size, 0, none⟩)]] (w.alloc (.cells (C2 x y) 36)) fun e W' => e = .returned (.bool (meetAny xs x y)) ∧ Below (w.alloc (.cells (C2 x y) 36)).heap.size (w.alloc (.cells (C2 x y) 36)) W') := H
  have E : clearC xs x y = !meetAny xs x y := by simp [meetAny]
  rw [E]
  clear hS hm hs E
  generalize meetAny xs x y = r at *
  cases r
  all_goals
    go_enter Tryz.func92, Tryz.ntmps92
    go_wp2_with fail
    refine H.out.mono ?_
    rintro e w1 ⟨rfl, hT⟩
    go_wp2
    go_ret
    exact ⟨rfl, then_below hB hT⟩

end Go.Proofs.YtldcagjnngkabaaGreatDoor

/-
  cal.Take, cal.Cut, cal.Free: what each call answers.
-/
namespace Go.Proofs.YtldcagjnngkabaaGreatDoor
open Go Go.RowKit Go.Shelf

attribute [local go_sem] Oper.semAt_some ext_const

theorem chk_no {xs : List Slt} {v : Value} (h : ¬ mayC xs) : Hid (∀ w, Ss w v xs → Calls Tryz.prog 58 #[v] w fun e W' => e = .returned (I 8) ∧ Below w.heap.size w W') := fun w hS => by rw [← errC_no h]; exact ccheck_calls w hS
theorem chk_yes {xs : List Slt} {v : Value} (h : mayC xs) : Hid (∀ w, Ss w v xs → Calls Tryz.prog 58 #[v] w fun e W' => e = .returned (I 0) ∧ Below w.heap.size w W') := fun w hS => by rw [← errC_ok h]; exact ccheck_calls w hS
theorem Blk.one {W W' : World} {B : Nat} {t : TypeId} {a : Int} (h : Blk W B t #[I a]) (hb : Below W.heap.size W W') : W'.cell? ⟨B, 0, none⟩ = some (.int .i64 a) ∧ B < W'.heap.size := ⟨(h.later hb).cell 0, (h.later hb).lt⟩
theorem one_start (w : World) (u : Array Value) (t : TypeId) : ∃ W, w.alloc (.cells u t) = W ∧ Below w.heap.size w W ∧ Blk W w.heap.size t u := ⟨_, rfl, (Below.refl _ w).alloc (Nat.le_refl _) _, Blk.new w _ _⟩

/-- What Free answers. -/
def freeE (xs : List Slt) (x y : Int) : Int := if mayCB xs then (if maySpB x y then 0 else 2) else 8
def freeB (xs : List Slt) (x y : Int) : Bool := mayCB xs && (maySpB x y && clearC xs x y)

theorem cfree_calls {xs : List Slt} {v : Value} {x y : Int} (w : World) (hS : Ss w v xs) : Calls Tryz.prog 99 #[v, S2 x y] w fun e W' => e = .returned (.tuple #[.bool (freeB xs x y), I (freeE xs x y)]) ∧ Below w.heap.size w W' := by
  obtain ⟨W, hW, hB, hK⟩ := one_start w (C2 x y) 36
  have HW : Hid (w.alloc (.cells (C2 x y) 36) = W) := hW
  have HS : Hid (Ss W v xs) := hS.later hB
  by_cases hm : mayC xs
  · have HC := chk_yes (v := v) hm
    have em := mayCB_iff.2 hm
    by_cases hs : maySp x y
    · have es := (maySpB_iff x y).2 hs
      have HT : Hid (∀ w, Calls Tryz.prog 55 #[S2 x y] w fun e W' => e = .returned (I 0) ∧ Below w.heap.size w W') := fun w => by rw [← errS_ok hs]; exact tcheck_calls x y w
      have HF : Hid (∀ w, Ss w v xs → Calls Tryz.prog 92 #[v, S2 x y] w fun e W' => e = .returned (.bool (clearC xs x y)) ∧ Below w.heap.size w W') := fun w h => free_calls w h (by have := hm.2.2; omega) hm.1 hs
      rw [show freeB xs x y = clearC xs x y by simp [freeB, em, es], show freeE xs x y = 0 by simp [freeE, em, es]]
      clear hW hm em hs es hS
      generalize clearC xs x y = r at *
      go_enter Tryz.func99, Tryz.ntmps99
      go_wp2_with fail
      rw [HW.out]
      refine (HC.out _ HS.out).mono ?_
      rintro e w1 ⟨rfl, hT⟩
      obtain ⟨c0, c1, hz⟩ := hK.pair hT
      go_wp2_with fail
      refine (HT.out _).mono ?_
      rintro e w2 ⟨rfl, hB2⟩
      have hT2 := then_below hT hB2
      clear c0 c1 hz
      obtain ⟨c0, c1, hz⟩ := hK.pair hT2
      go_wp2_with fail
      refine (HF.out _ (HS.out.later hT2)).mono ?_
      rintro e w3 ⟨rfl, hB3⟩
      go_wp2
      go_ret2
      exact ⟨rfl, then_below hB (then_below hT2 hB3)⟩
    · have es : maySpB x y = false := by cases e : maySpB x y; rfl; exact absurd ((maySpB_iff x y).1 e) hs
      have HT : Hid (∀ w, Calls Tryz.prog 55 #[S2 x y] w fun e W' => e = .returned (I 2) ∧ Below w.heap.size w W') := fun w => by rw [← errS_no hs]; exact tcheck_calls x y w
      rw [show freeB xs x y = false by simp [freeB, es], show freeE xs x y = 2 by simp [freeE, em, es]]
      clear hW hm em hs es hS
      go_enter Tryz.func99, Tryz.ntmps99
      go_wp2_with fail
      rw [HW.out]
      refine (HC.out _ HS.out).mono ?_
      rintro e w1 ⟨rfl, hT⟩
      obtain ⟨c0, c1, hz⟩ := hK.pair hT
      go_wp2_with fail
      refine (HT.out _).mono ?_
      rintro e w2 ⟨rfl, hB2⟩
      go_wp2
      go_ret2
      exact ⟨rfl, then_below hB (then_below hT hB2)⟩
  · have em : mayCB xs = false := by cases e : mayCB xs; rfl; exact absurd (mayCB_iff.1 e) hm
    have HC := chk_no (v := v) hm
    rw [show freeB xs x y = false by simp [freeB, em], show freeE xs x y = 8 by simp [freeE, em]]
    clear hW hm em hS
    go_enter Tryz.func99, Tryz.ntmps99
    go_wp2_with fail
    rw [HW.out]
    refine (HC.out _ HS.out).mono ?_
    rintro e w1 ⟨rfl, hT⟩
    go_wp2
    go_ret2
    exact ⟨rfl, then_below hB hT⟩

end Go.Proofs.YtldcagjnngkabaaGreatDoor

/-
  The document's Less, Ended, With (tidehallref08): what each call answers.
-/
namespace Go.Proofs.YtldcagjnngkabaaGreatDoor
open Go Go.RowKit Go.Shelf

attribute [local go_sem] Oper.semAt_some ext_const

/-- How With goes on. -/
structure Wst (s : Slt) (l out : List Slt) (d : Bool) : Prop where
  no : d = false → (∀ y ∈ l, ¬ s.1 < y.1) ∧ out = l
  yes : d = true → (∃ y ∈ l, s.1 < y.1) ∧ out = withC s l
theorem withC_past {s : Slt} : ∀ {l : List Slt} (m : List Slt), (∀ y ∈ l, ¬ s.1 < y.1) → withC s (l ++ m) = l ++ withC s m
  | [], _, _ => rfl
  | y :: r, m, h => by
    rw [List.cons_append, withC, if_neg (h y (by simp)), withC_past m fun z hz => h z (by simp [hz])]
    rfl
theorem withC_app {s : Slt} : ∀ {l : List Slt} (m : List Slt), (∃ y ∈ l, s.1 < y.1) → withC s (l ++ m) = withC s l ++ m
  | [], _, h => by obtain ⟨y, hy, _⟩ := h; cases hy
  | y :: r, m, h => by
    rw [List.cons_append, withC, withC]
    by_cases hy : s.1 < y.1
    · rw [if_pos hy, if_pos hy]; rfl
    · rw [if_neg hy, if_neg hy, withC_app m]
      · rfl
      · obtain ⟨z, hz, hz2⟩ := h
        rcases List.mem_cons.1 hz with rfl | hz
        · exact absurd hz2 hy
        · exact ⟨z, hz, hz2⟩
theorem Wst.start (s : Slt) : Wst s [] [] false := ⟨fun _ => ⟨fun y hy => (by cases hy), rfl⟩, fun h => (by cases h)⟩
theorem Wst.on {s x : Slt} {l out : List Slt} (h : Wst s l out true) : Wst s (l ++ [x]) (out ++ [x]) true := by
  obtain ⟨⟨y, hy, hy2⟩, e⟩ := h.yes rfl
  exact ⟨fun h => (by cases h), fun _ => ⟨⟨y, by simp [hy], hy2⟩, by rw [withC_app _ ⟨y, hy, hy2⟩, e]⟩⟩
theorem Wst.skip {s x : Slt} {l out : List Slt} (h : Wst s l out false) (hx : ¬ s.1 < x.1) : Wst s (l ++ [x]) (out ++ [x]) false := by
  obtain ⟨h1, h2⟩ := h.no rfl
  refine ⟨fun _ => ⟨fun y hy => ?_, by rw [h2]⟩, fun h => (by cases h)⟩
  rcases List.mem_append.1 hy with hy | hy
  · exact h1 y hy
  · rw [List.mem_singleton.1 hy]; exact hx
theorem Wst.hit {s x : Slt} {l out : List Slt} (h : Wst s l out false) (hx : s.1 < x.1) : Wst s (l ++ [x]) (out ++ [s] ++ [x]) true := by
  obtain ⟨h1, h2⟩ := h.no rfl
  refine ⟨fun h => (by cases h), fun _ => ⟨⟨x, by simp, hx⟩, ?_⟩⟩
  rw [withC_past _ h1, h2, withC, if_pos hx]
  simp
theorem Wst.end0 {s : Slt} {l out : List Slt} (h : Wst s l out false) : out ++ [s] = withC s l := by
  obtain ⟨h1, h2⟩ := h.no rfl
  have := withC_past (s := s) [] h1
  rw [List.append_nil] at this
  rw [this, h2]
  rfl
theorem Wst.end1 {s : Slt} {l out : List Slt} (h : Wst s l out true) : out = withC s l := (h.yes rfl).2
theorem Wst.few {s : Slt} {l out : List Slt} {d : Bool} (h : Wst s l out d) : out.length ≤ l.length + 1 := by
  cases d
  · rw [(h.no rfl).2]; omega
  · rw [(h.yes rfl).2, withC_len]; omega

set_option maxRecDepth 100000 in
set_option maxHeartbeats 8000000 in
theorem rwith_calls {xs : List Slt} {v : Value} {x y z : Int} (w : World) (hS : Ss w v xs) (hn : xs.length ≤ 10000) : Calls Tryz.prog 71 #[v, V3 x y z] w fun e W' => ∃ u, e = .returned u ∧ So W' w.heap.size u (withC (x, y, z) xs) ∧ Below w.heap.size w W' := by
  have hmx : Tryz.prog.follows .mixedOrders = true := by kernel_rfl
  obtain ⟨ao, cap, rfl, hS⟩ := hS.form
  obtain ⟨W, hW, hB, hK⟩ := one_start w (C3 x y z) 85
  have HW : Hid (w.alloc (.cells (C3 x y z) 85) = W) := hW
  have HS : Hid (Ss W (.slice ao xs.length cap) xs) := hS.later hB
  clear hS hW
  have H0 : Hid (∀ out, Wst (x, y, z) xs out false → out ++ [(x, y, z)] = withC (x, y, z) xs) := fun out h => h.end0
  have H1 : Hid (∀ out, Wst (x, y, z) xs out true → out = withC (x, y, z) xs) := fun out h => h.end1
  generalize withC (x, y, z) xs = tgt at H0 H1 ⊢
  go_enter Tryz.func71, Tryz.ntmps71
  go_wp2
  rw [HW.out]
  go_loopw [5, 6, 7] (fun u dn i wr => ∃ (k : Nat) (d : Bool) (ao' : Option Addr) (n' cap' : Nat) (ys : List Slt), k ≤ xs.length ∧ i = .int .i64 k ∧ dn = .bool d ∧ u = .slice ao' n' cap' ∧ Hid (So wr W.heap.size (.slice ao' n' cap') ys) ∧ Hid (Wst (x, y, z) (xs.take k) ys d) ∧ Below W.heap.size W wr) (fun _ _ i _ => xs.length - (RowKit.intOf i).toNat)
  case atStart => exact ⟨0, false, _, _, _, [], by omega, rfl, rfl, rfl, So.nil _ _, Wst.start _, Below.refl _ _⟩
  case round =>
    obtain ⟨k, d, ao', n', cap', ys, hk, rfl, rfl, rfl, HY, HF, hT⟩ := hrel
    have hyl : ys.length ≤ 50000 := by have := HF.out.few; rw [List.length_take] at this; omega
    by_cases hlt : (k : Int) < (xs.length : Int)
    · have hk' : k < xs.length := by omega
      obtain ⟨g, off, f, t, o, rfl, hu, ha⟩ := (HS.out.later hT).at hk'
      have HU : Hid (xs.take (k + 1) = xs.take k ++ [(f, t, o)]) := take_snoc hk' hu
      obtain ⟨gS, _, _, _⟩ := (HS.out).at hk'
      have hgW : g < W.heap.size := by
        obtain ⟨g2, off2, _, _, _, e2, _, ha2⟩ := (HS.out).at hk'
        simp only [Option.some.injEq, Addr.mk.injEq] at e2
        rw [e2.1]; exact ha2.1
      obtain ⟨e0, e1, e2⟩ := ha.ext
      have b0 : ∀ X : Ext wr, X.wd.cell? ⟨w.heap.size, 0, none⟩ = some (.int .i64 x) := fun X => (hK.later (then_below hT X.le)).cell 0
      clear hu
      cases d
      · by_cases hq : x < f
        · have HN : Hid (Wst (x, y, z) (xs.take (k + 1)) (ys ++ [(x, y, z)] ++ [(f, t, o)]) true) := by show Wst _ _ _ _; rw [HU.out]; exact HF.out.hit hq
          go_wp2
          refine wp_region_look hmx (by kernel_rfl) ?_
          repeat (go_big_quiet_step (fail))
          refine wpQuiet_nil ?_
          intro X
          have hT1 := then_below hT X.le
          have hat1 := ha.later X.le
          have HY1 : Hid (So X.wd W.heap.size (.slice ao' n' cap') ys) := HY.out.later X.le
          clear e0 e1 e2 b0 ha HY
          generalize X.wd = w1 at *
          obtain ⟨hz, c0, c1, c2⟩ := hat1.cells
          obtain ⟨hz', d0, d1, d2⟩ := (hK.later hT1).at3.cells
          have hsz := hT1.size
          have hyl0 : ys.length ≤ 100000 := by omega
          go_wp2_with (first
            | (at_builtin; refine wpList_appS (base := W.heap.size) (xs := ys ++ [(x, y, z)]) rfl _ _ rfl rfl rfl rfl hW3 hl3 hz3 ?_; intro ao4 n4 cap4 w4 hW4 hB4)
            | (at_builtin; refine wpList_appS (base := W.heap.size) (xs := ys) rfl _ _ rfl rfl rfl rfl HY1.out hyl0 hsz ?_; intro ao3 n3 cap3 w3 hW3 hB3
               obtain ⟨hq0, h0, h1, h2⟩ := (hat1.below hB3 hgW).cells
               have hz3 := Nat.le_trans hsz hB3.size
               have hl3 : (ys ++ [(x, y, z)]).length ≤ 100000 := by simp; omega)
            | go_in)
          go_roundw
          case rel => exact ⟨k + 1, true, _, _, _, _, by omega, by go_num, rfl, rfl, hW4, HN, hT1.trans (hB3.trans hB4)⟩
          case measure => simp [RowKit.intOf]; omega
        · have HN : Hid (Wst (x, y, z) (xs.take (k + 1)) (ys ++ [(f, t, o)]) false) := by show Wst _ _ _ _; rw [HU.out]; exact HF.out.skip hq
          have hq : decide (x < f) = false := decide_eq_false hq
          go_wp2
          refine wp_region_look hmx (by kernel_rfl) ?_
          repeat (go_big_quiet_step (fail))
          refine wpQuiet_nil ?_
          intro X
          have hT1 := then_below hT X.le
          have hat1 := ha.later X.le
          have HY1 : Hid (So X.wd W.heap.size (.slice ao' n' cap') ys) := HY.out.later X.le
          clear e0 e1 e2 b0 ha HY
          generalize X.wd = w1 at *
          obtain ⟨hz, c0, c1, c2⟩ := hat1.cells
          have hsz := hT1.size
          have hyl0 : ys.length ≤ 100000 := by omega
          go_wp2_with (first
            | (at_builtin; refine wpList_appS (base := W.heap.size) (xs := ys) rfl _ _ rfl rfl rfl rfl HY1.out hyl0 hsz ?_; intro ao3 n3 cap3 w3 hW3 hB3)
            | go_in)
          go_roundw
          case rel => exact ⟨k + 1, false, _, _, _, _, by omega, by go_num, rfl, rfl, hW3, HN, hT1.trans hB3⟩
          case measure => simp [RowKit.intOf]; omega
      · have HN : Hid (Wst (x, y, z) (xs.take (k + 1)) (ys ++ [(f, t, o)]) true) := by show Wst _ _ _ _; rw [HU.out]; exact HF.out.on
        go_wp2
        refine wp_region_look hmx (by kernel_rfl) ?_
        repeat (go_big_quiet_step (fail))
        refine wpQuiet_nil ?_
        intro X
        have hT1 := then_below hT X.le
        have hat1 := ha.later X.le
        have HY1 : Hid (So X.wd W.heap.size (.slice ao' n' cap') ys) := HY.out.later X.le
        clear e0 e1 e2 b0 ha HY
        generalize X.wd = w1 at *
        obtain ⟨hz, c0, c1, c2⟩ := hat1.cells
        have hsz := hT1.size
        have hyl0 : ys.length ≤ 100000 := by omega
        go_wp2_with (first
          | (at_builtin; refine wpList_appS (base := W.heap.size) (xs := ys) rfl _ _ rfl rfl rfl rfl HY1.out hyl0 hsz ?_; intro ao3 n3 cap3 w3 hW3 hB3)
          | go_in)
        go_roundw
        case rel => exact ⟨k + 1, true, _, _, _, _, by omega, by go_num, rfl, rfl, hW3, HN, hT1.trans hB3⟩
        case measure => simp [RowKit.intOf]; omega
    · obtain rfl : k = xs.length := by omega
      have hF := HF.out
      rw [List.take_length] at hF
      have hsz := hT.size
      have hyl0 : ys.length ≤ 100000 := by omega
      cases d
      · have HE : Hid (ys ++ [(x, y, z)] = tgt) := H0.out ys hF
        obtain ⟨hz', d0, d1, d2⟩ := (hK.later hT).at3.cells
        clear hF
        go_wp2_with (first
          | (at_builtin; refine wpList_appS (base := W.heap.size) (xs := ys) rfl _ _ rfl rfl rfl rfl HY.out hyl0 hsz ?_; intro ao3 n3 cap3 w3 hW3 hB3)
          | go_in)
        go_ret
        exact ⟨_, rfl, HE.out ▸ hW3.weak hB.size, hB.trans ((hT.trans hB3).mono hB.size)⟩
      · have hE : ys = tgt := H1.out ys hF
        subst hE
        clear hF
        have HY2 : Hid (So wr w.heap.size (.slice ao' n' cap') ys) := HY.out.weak hB.size
        go_wp2
        go_ret
        exact ⟨_, rfl, HY2.out, then_below hB hT⟩

end Go.Proofs.YtldcagjnngkabaaGreatDoor

/-
  cal.At, cal.Next: what each call answers.
-/
namespace Go.Proofs.YtldcagjnngkabaaGreatDoor
open Go Go.RowKit Go.Shelf

attribute [local go_sem] Oper.semAt_some ext_const

def momB (a : Int) : Bool := decide (0 ≤ a) && decide (a < 1099511627776)
/-- What At answers. -/
def atE (xs : List Slt) (a : Int) : Int := if mayCB xs then (if momB a then (match atC xs a with | some _ => 0 | none => 6) else 2) else 8
def atV (xs : List Slt) (a : Int) : Int := if mayCB xs then (if momB a then (match atC xs a with | some o => o | none => 0) else 0) else 0
theorem momB_yes {a : Int} (h : 0 ≤ a ∧ a < 1099511627776) : momB a = true := by simp [momB, h]
theorem momB_no {a : Int} (h : ¬ (0 ≤ a ∧ a < 1099511627776)) : momB a = false := by
  unfold momB
  rw [Bool.and_eq_false_iff]
  by_cases h0 : 0 ≤ a
  · exact .inr (decide_eq_false fun h1 => h ⟨h0, h1⟩)
  · exact .inl (decide_eq_false h0)

theorem nextC_is {c : List Slt} (hf : fineC c) {a long n : Int} (hl : 1 ≤ long) (hn : okF c a long n = true) (h : ∀ m, okF c a long m = true → n ≤ m) : nextC c a long = some n := by
  cases e : nextC c a long with
  | none =>
    have := nextC_none hf hl e n
    rw [this] at hn
    cases hn
  | some k =>
    obtain ⟨h1, h2⟩ := nextC_some hf hl e
    have := h k h1
    have := h2 n hn
    rw [show k = n by omega]
theorem nextC_not {c : List Slt} (hf : fineC c) {a long : Int} (hl : 1 ≤ long) (h : ∀ m, okF c a long m = false) : nextC c a long = none := by
  cases e : nextC c a long with
  | none => rfl
  | some k =>
    have := (nextC_some hf hl e).1
    rw [h k] at this
    cases this

/-- What holds behind k slots of Next's walk, p being the moment that is looked at. -/
structure Nx (c : List Slt) (a long : Int) (k : Nat) (p : Int) : Prop where
  lo : a ≤ p
  hi : p ≤ 1099511627776
  ends : ∀ j, j < k → (c.getD j (0, 0, 0)).2.1 ≤ p
  least : ∀ m, okF c a long m = true → p ≤ m
theorem okF_iff {c : List Slt} (hf : fineC c) {a long m : Int} (hl : 1 ≤ long) : okF c a long m = true ↔ a ≤ m ∧ long ≤ 1099511627776 - m ∧ ∀ s ∈ c, m + long ≤ s.1 ∨ s.2.1 ≤ m := by
  unfold okF
  rw [Bool.and_eq_true, Bool.and_eq_true, decide_eq_true_eq, decide_eq_true_eq, clearC_iff hf (by omega)]
theorem Nx.hit {c : List Slt} {a long p f t o : Int} {k : Nat} (N : Nx c a long k p) (hm : mayC c) (hl : 1 ≤ long) (hk : k < c.length) (hu : c.getD k (0, 0, 0) = (f, t, o)) (h : long ≤ f - p) : nextC c a long = some p := by
  have hf := mayC_fine hm
  have hmem : ∀ j, j < c.length → c.getD j (0, 0, 0) ∈ c := fun j hj => by simp [hj]
  have hs := hm.1 _ (hmem k hk)
  rw [hu] at hs
  have hs1 : 0 ≤ f ∧ f < t ∧ t ≤ 1099511627776 := hs.1
  refine nextC_is hf hl ((okF_iff hf hl).2 ⟨N.lo, by omega, fun s hs => ?_⟩) N.least
  obtain ⟨i, hi, rfl⟩ := List.mem_iff_getElem.1 hs
  by_cases hik : i < k
  · have := N.ends i hik
    simp [hi] at this
    exact .inr this
  · by_cases hik2 : i = k
    · subst hik2
      simp [hi] at hu
      rw [hu]
      exact .inl (by show p + long ≤ f; omega)
    · have := List.pairwise_iff_getElem.1 hm.2.1 k i hk hi (by omega)
      simp [hk] at hu
      rw [hu] at this
      simp only at this
      exact .inl (by omega)
theorem Nx.next {c : List Slt} {a long p f t o q : Int} {k : Nat} (N : Nx c a long k p) (hm : mayC c) (hl : 1 ≤ long) (hk : k < c.length) (hu : c.getD k (0, 0, 0) = (f, t, o)) (h : ¬ long ≤ f - p) (hq : p ≤ q ∧ t ≤ q ∧ (q = p ∨ q = t)) : Nx c a long (k + 1) q := by
  have hf := mayC_fine hm
  have hmem : ∀ j, j < c.length → c.getD j (0, 0, 0) ∈ c := fun j hj => by simp [hj]
  have hs := hm.1 _ (hmem k hk)
  rw [hu] at hs
  have hs1 : 0 ≤ f ∧ f < t ∧ t ≤ 1099511627776 := hs.1
  have := N.lo
  have := N.hi
  refine ⟨by omega, by omega, fun j hj => ?_, fun m hm2 => ?_⟩
  · rcases Nat.lt_succ_iff_lt_or_eq.1 hj with h | rfl
    · have := N.ends j h
      omega
    · rw [hu]; exact hq.2.1
  · have h1 := N.least m hm2
    have h2 := ((okF_iff hf hl).1 hm2).2.2 _ (hmem k hk)
    rw [hu] at h2
    simp only at h2
    omega
theorem Nx.none {c : List Slt} {a long p : Int} (N : Nx c a long c.length p) (hm : mayC c) (hl : 1 ≤ long) (h : 1099511627776 - p < long) : nextC c a long = none := by
  have hf := mayC_fine hm
  refine nextC_not hf hl fun m => ?_
  cases e : okF c a long m
  · rfl
  · have := N.least m e
    have := ((okF_iff hf hl).1 e).2.1
    omega
theorem Nx.end {c : List Slt} {a long p : Int} (N : Nx c a long c.length p) (hm : mayC c) (hl : 1 ≤ long) (h : ¬ 1099511627776 - p < long) : nextC c a long = some p := by
  have hf := mayC_fine hm
  refine nextC_is hf hl ((okF_iff hf hl).2 ⟨N.lo, by omega, fun s hs => ?_⟩) N.least
  obtain ⟨i, hi, rfl⟩ := List.mem_iff_getElem.1 hs
  have := N.ends i hi
  simp [hi] at this
  exact .inr this

/-- What Next answers. -/
def askN (a long : Int) : Bool := momB a && decide (1 ≤ long)
def nextE (xs : List Slt) (a long : Int) : Int := if mayCB xs then (if askN a long then (match nextC xs a long with | some _ => 0 | none => 6) else 2) else 8
def nextV (xs : List Slt) (a long : Int) : Int := if mayCB xs then (if askN a long then (match nextC xs a long with | some n => n | none => 0) else 0) else 0
theorem askN_yes {a long : Int} (h : 0 ≤ a ∧ a < 1099511627776 ∧ 1 ≤ long) : askN a long = true := by simp [askN, momB_yes ⟨h.1, h.2.1⟩, h.2.2]
theorem askN_no {a long : Int} (h : ¬ (0 ≤ a ∧ a < 1099511627776 ∧ 1 ≤ long)) : askN a long = false := by
  unfold askN
  by_cases h1 : 0 ≤ a ∧ a < 1099511627776
  · rw [decide_eq_false (fun h2 => h ⟨h1.1, h1.2, h2⟩)]
    simp
  · rw [momB_no h1]
    rfl

end Go.Proofs.YtldcagjnngkabaaGreatDoor

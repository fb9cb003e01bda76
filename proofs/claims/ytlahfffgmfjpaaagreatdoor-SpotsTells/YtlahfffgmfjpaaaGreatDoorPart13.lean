/-
  place.Check and place.first: what each call answers; nothing that lay before is turned.
-/
import Derived.Test.YtlahfffgmfjpaaaGreatDoorPart11
import Derived.Test.YtlahfffgmfjpaaaGreatDoorPart5
import Derived.Test.YtlahfffgmfjpaaaGreatDoorPart6
import Derived.Test.YtlahfffgmfjpaaaGreatDoorPart3
import Derived.Laws.AppendOwn
import Derived.Laws.AppendOwnNone
namespace Go.Proofs.YtlahfffgmfjpaaaGreatDoor
open Go Go.RowKit Go.Shelf

theorem bx0 (x y z : Bool) (w : World) : (Instr.index 24 (.agg #[.bool x, .bool y, .bool z]) (.int .i64 0)).run Tryz.prog w = .ok (.bool x) w := by kernel_rfl
theorem bx1 (x y z : Bool) (w : World) : (Instr.index 24 (.agg #[.bool x, .bool y, .bool z]) (.int .i64 1)).run Tryz.prog w = .ok (.bool y) w := by kernel_rfl
theorem bx2 (x y z : Bool) (w : World) : (Instr.index 24 (.agg #[.bool x, .bool y, .bool z]) (.int .i64 2)).run Tryz.prog w = .ok (.bool z) w := by kernel_rfl

attribute [local go_sem] Oper.semAt_some ext_const eq_arr eq_arr9 same3_self bx0 bx1 bx2

abbrev C9 (b : Bx) (p q r : Bool) : Array Value := #[I b.x, I b.y, I b.z, I b.a, I b.b, I b.c, .bool p, .bool q, .bool r]
theorem Blk.nine {W W' : World} {B : Nat} {t : TypeId} {b : Bx} {p q r : Bool} (h : Blk W B t (C9 b p q r)) (hb : Below W.heap.size W W') :
    (W'.cell? ⟨B, 0, none⟩ = some (I b.x) ∧ W'.cell? ⟨B, 1, none⟩ = some (I b.y) ∧ W'.cell? ⟨B, 2, none⟩ = some (I b.z)) ∧ (W'.cell? ⟨B, 3, none⟩ = some (I b.a) ∧ W'.cell? ⟨B, 4, none⟩ = some (I b.b) ∧ W'.cell? ⟨B, 5, none⟩ = some (I b.c)) ∧
    (W'.cell? ⟨B, 6, none⟩ = some (.bool p) ∧ W'.cell? ⟨B, 7, none⟩ = some (.bool q) ∧ W'.cell? ⟨B, 8, none⟩ = some (.bool r)) ∧ B < W'.heap.size :=
  ⟨⟨(h.later hb).cell 0, (h.later hb).cell 1, (h.later hb).cell 2⟩, ⟨(h.later hb).cell 3, (h.later hb).cell 4, (h.later hb).cell 5⟩, ⟨(h.later hb).cell 6, (h.later hb).cell 7, (h.later hb).cell 8⟩, (h.later hb).lt⟩

theorem errP_err {d0 d1 d2 : Int} {b : Bx} (t0 t1 t2 : Bool) (he : (errB d0 d1 d2 b != 0) = true) : errP d0 d1 d2 b t0 t1 t2 = errB d0 d1 d2 b := by
  unfold errB at he ⊢
  unfold errP
  cases h1 : okDB d0 d1 d2
  · rfl
  · cases h2 : mayBB d0 d1 d2 b
    · simp [mayPB, h2]
    · simp [h1, h2, codeOf] at he
theorem errP_box {d0 d1 d2 : Int} {b : Bx} (t0 t1 t2 : Bool) (hm : mayD d0 d1 d2) (hb : mayB d0 d1 d2 b) : errP d0 d1 d2 b t0 t1 t2 = codeOf (sameBx b (canonB d0 d1 d2 b) && !torB b t0 t1 t2) := by
  unfold errP mayPB
  rw [(okDB_iff _ _ _).2 hm, (mayBB_iff _ _ _ _).2 hb]
  simp

set_option maxRecDepth 100000 in
set_option maxHeartbeats 2000000 in
theorem pcheck_err {d0 d1 d2 : Int} {b : Bx} (t0 t1 t2 : Bool) (w : World) (he : (errB d0 d1 d2 b != 0) = true) :
    Calls Tryz.prog 25 #[A3 d0 d1 d2, P9 b t0 t1 t2] w fun e W' => e = .returned (I (errB d0 d1 d2 b)) ∧ Below w.heap.size w W' := by
  have HC : Hid (∀ w, Calls Tryz.prog 55 #[A3 d0 d1 d2, B6 b] w fun e W' => e = .returned (.tuple #[B6 ⟨0, 0, 0, 0, 0, 0⟩, I (errB d0 d1 d2 b)]) ∧ Below w.heap.size w W') := fun w => bcanon_err w he
  generalize errB d0 d1 d2 b = er at *
  go_enter Tryz.func25, Tryz.ntmps25
  go_wp2_with fail
  obtain ⟨W, hW, hB0, b0, b1⟩ := two_start w #[I d0, I d1, I d2] (C9 b t0 t1 t2) 23 32
  rw [hW]
  clear hW
  refine (HC.out _).mono ?_
  rintro e w1 ⟨rfl, hT⟩
  have hB := then_below hB0 hT
  clear hT b0 b1
  go_wp2
  go_ret
  exact ⟨rfl, then_alloc hB _⟩

set_option maxRecDepth 100000 in
set_option maxHeartbeats 4000000 in
theorem pcheck_not {d0 d1 d2 : Int} {b : Bx} (t0 t1 t2 : Bool) (w : World) (hm : mayD d0 d1 d2) (hb : mayB d0 d1 d2 b) (hs : sameBx b (canonB d0 d1 d2 b) = false) :
    Calls Tryz.prog 25 #[A3 d0 d1 d2, P9 b t0 t1 t2] w fun e W' => e = .returned (I 2) ∧ Below w.heap.size w W' := by
  have HC : Hid (∀ w, Calls Tryz.prog 55 #[A3 d0 d1 d2, B6 b] w fun e W' => e = .returned (.tuple #[B6 (canonB d0 d1 d2 b), I 0]) ∧ Below w.heap.size w W') := fun w => bcanon_ok w hm hb
  generalize canonB d0 d1 d2 b = c at *
  have hs : same3 b.x b.y b.z c.x c.y c.z = false ∨ (same3 b.x b.y b.z c.x c.y c.z = true ∧ same3 b.a b.b b.c c.a c.b c.c = false) := by
    unfold sameBx at hs
    cases h1 : same3 b.x b.y b.z c.x c.y c.z
    · exact .inl rfl
    · rw [h1, Bool.true_and] at hs
      exact .inr ⟨rfl, hs⟩
  rcases hs with h1 | ⟨h1, h2⟩
  · go_enter Tryz.func25, Tryz.ntmps25
    go_wp2_with fail
    obtain ⟨W, hW, hB0, b0, b1⟩ := two_start w #[I d0, I d1, I d2] (C9 b t0 t1 t2) 23 32
    rw [hW]
    clear hW
    refine (HC.out _).mono ?_
    rintro e w1 ⟨rfl, hT⟩
    have hB := then_below hB0 hT
    obtain ⟨⟨x0, x1, x2⟩, ⟨x3, x4, x5⟩, _, hz⟩ := b1.nine hT
    clear hT b0 b1 hB0
    go_wp2
    go_ret
    exact ⟨rfl, then_alloc hB _⟩
  · go_enter Tryz.func25, Tryz.ntmps25
    go_wp2_with fail
    obtain ⟨W, hW, hB0, b0, b1⟩ := two_start w #[I d0, I d1, I d2] (C9 b t0 t1 t2) 23 32
    rw [hW]
    clear hW
    refine (HC.out _).mono ?_
    rintro e w1 ⟨rfl, hT⟩
    have hB := then_below hB0 hT
    obtain ⟨⟨x0, x1, x2⟩, ⟨x3, x4, x5⟩, _, hz⟩ := b1.nine hT
    clear hT b0 b1 hB0
    go_wp2
    go_ret
    exact ⟨rfl, then_alloc hB _⟩

set_option maxRecDepth 100000 in
set_option maxHeartbeats 4000000 in
theorem pcheck_same {d0 d1 d2 : Int} {b : Bx} (t0 t1 t2 : Bool) (w : World) (hm : mayD d0 d1 d2) (hb : mayB d0 d1 d2 b) (hs : canonB d0 d1 d2 b = b) :
    Calls Tryz.prog 25 #[A3 d0 d1 d2, P9 b t0 t1 t2] w fun e W' => e = .returned (I (codeOf (!torB b t0 t1 t2))) ∧ Below w.heap.size w W' := by
  have HC : Hid (∀ w, Calls Tryz.prog 55 #[A3 d0 d1 d2, B6 b] w fun e W' => e = .returned (.tuple #[B6 b, I 0]) ∧ Below w.heap.size w W') := fun w => by have := bcanon_ok (b := b) w hm hb; rwa [hs] at this
  clear hs hb hm
  have HY : Hid (torB b t0 t1 t2 = true → codeOf (!torB b t0 t1 t2) = 2) := fun h => by simp [h, codeOf]
  have HN : Hid (torB b t0 t1 t2 = false → codeOf (!torB b t0 t1 t2) = 0) := fun h => by simp [h, codeOf]
  have HT : Hid (torB b t0 t1 t2 = ((t0 && b.a == 1) || (t1 && b.b == 1) || (t2 && b.c == 1))) := rfl
  generalize codeOf (!torB b t0 t1 t2) = er at *
  generalize torB b t0 t1 t2 = tb at *
  go_enter Tryz.func25, Tryz.ntmps25
  go_wp2_with fail
  obtain ⟨W, hW, hB0, b0, b1⟩ := two_start w #[I d0, I d1, I d2] (C9 b t0 t1 t2) 23 32
  rw [hW]
  clear hW
  refine (HC.out _).mono ?_
  rintro e w1 ⟨rfl, hT⟩
  have hB := then_below hB0 hT
  obtain ⟨⟨x0, x1, x2⟩, ⟨x3, x4, x5⟩, ⟨x6, x7, x8⟩, hz⟩ := b1.nine hT
  have hB2 := then_alloc hB (.cells (C6 b) 30)
  clear hT b0 b1 hB0 hB
  go_wp2_with fail
  go_loopw [25] (fun i wr => ((i = .int .i64 0) ∨ (i = .int .i64 1 ∧ Hid ((t0 && b.a == 1) = false)) ∨ (i = .int .i64 2 ∧ Hid ((t0 && b.a == 1) = false) ∧ Hid ((t1 && b.b == 1) = false)) ∨ (i = .int .i64 3 ∧ Hid ((t0 && b.a == 1) = false) ∧ Hid ((t1 && b.b == 1) = false) ∧ Hid ((t2 && b.c == 1) = false))) ∧ wr = w1.alloc (.cells (C6 b) 30)) (fun i _ => 3 - (RowKit.intOf i).toNat)
  case atStart => exact ⟨.inl rfl, rfl⟩
  case round =>
    obtain ⟨hi, rfl⟩ := hrel
    rcases hi with rfl | ⟨rfl, h0⟩ | ⟨rfl, h0, h1⟩ | ⟨rfl, h0, h1, h2⟩
    · cases t0
      · go_wp2
        go_roundw
        case rel => exact ⟨.inr (.inl ⟨rfl, by show _ = _; simp⟩), by trivial⟩
        case measure => simp [RowKit.intOf]
      · cases hq : b.a == 1
        · go_wp2
          go_roundw
          case rel => exact ⟨.inr (.inl ⟨rfl, by show _ = _; simp⟩), by trivial⟩
          case measure => simp [RowKit.intOf]
        · go_wp2
          go_ret
          exact ⟨by rw [HY.out (by rw [HT.out, hq]; simp)]; rfl, hB2⟩
    · cases t1
      · go_wp2
        go_roundw
        case rel => exact ⟨.inr (.inr (.inl ⟨rfl, h0, by show _ = _; simp⟩)), by trivial⟩
        case measure => simp [RowKit.intOf]
      · cases hq : b.b == 1
        · go_wp2
          go_roundw
          case rel => exact ⟨.inr (.inr (.inl ⟨rfl, h0, by show _ = _; simp⟩)), by trivial⟩
          case measure => simp [RowKit.intOf]
        · go_wp2
          go_ret
          exact ⟨by rw [HY.out (by rw [HT.out, hq]; simp)]; rfl, hB2⟩
    · cases t2
      · go_wp2
        go_roundw
        case rel => exact ⟨.inr (.inr (.inr ⟨rfl, h0, h1, by show _ = _; simp⟩)), by trivial⟩
        case measure => simp [RowKit.intOf]
      · cases hq : b.c == 1
        · go_wp2
          go_roundw
          case rel => exact ⟨.inr (.inr (.inr ⟨rfl, h0, h1, by show _ = _; simp⟩)), by trivial⟩
          case measure => simp [RowKit.intOf]
        · go_wp2
          go_ret
          exact ⟨by rw [HY.out (by rw [HT.out, hq]; simp)]; rfl, hB2⟩
    · go_wp2
      go_ret
      exact ⟨by rw [HN.out (by rw [HT.out, h0.out, h1.out, h2.out]; rfl)]; rfl, hB2⟩

/-- Whether a place may be: the document's answer. -/
theorem pcheck_calls (d0 d1 d2 : Int) (b : Bx) (t0 t1 t2 : Bool) (w : World) :
    Calls Tryz.prog 25 #[A3 d0 d1 d2, P9 b t0 t1 t2] w fun e W' => e = .returned (I (errP d0 d1 d2 b t0 t1 t2)) ∧ Below w.heap.size w W' := by
  rcases errB_cases d0 d1 d2 b with ⟨hm, hb, he⟩ | ⟨he, _⟩
  · rw [errP_box t0 t1 t2 hm hb]
    cases hs : sameBx b (canonB d0 d1 d2 b)
    · exact pcheck_not t0 t1 t2 w hm hb hs
    · have := pcheck_same t0 t1 t2 w hm hb ((sameBx_iff _ _).1 hs).symm
      simpa using this
  · have he : (errB d0 d1 d2 b != 0) = true := by rcases he with h | h <;> rw [h] <;> rfl
    rw [errP_err t0 t1 t2 he]
    exact pcheck_err t0 t1 t2 w he

set_option maxRecDepth 100000 in
set_option maxHeartbeats 2000000 in
theorem firstP_calls (b : Bx) (k : Fin 3) (w : World) : Calls Tryz.prog 140 #[B6 b, I (axI k)] w fun e W' => e = .returned (B6 (upB b 1 k)) ∧ Below w.heap.size w W' := by
  rcases fin3 k with rfl | rfl | rfl
  · simp only [axI, upB]
    go_enter Tryz.func140, Tryz.ntmps140
    go_wp2
    obtain ⟨W, hW, hB0, b0, b1⟩ := two_start w #[I b.x, I b.y, I b.z, I 1, I b.b, I b.c] #[I b.x, I b.y, I b.z, I 1, I b.b, I b.c] 30 30
    rw [hW]
    obtain ⟨⟨j0, j1, j2, j3, j4, j5⟩, _⟩ := b1.row6
    exact bodyPost_ret (v := .agg #[I b.x, I b.y, I b.z, I 1, I b.b, I b.c]) (by simp [results, Tryz.f140, go_sem, j0, j1, j2, j3, j4, j5]) rfl ⟨rfl, hB0⟩
  · simp only [axI, upB]
    go_enter Tryz.func140, Tryz.ntmps140
    go_wp2
    obtain ⟨W, hW, hB0, b0, b1⟩ := two_start w #[I b.x, I b.y, I b.z, I b.a, I 1, I b.c] #[I b.x, I b.y, I b.z, I b.a, I 1, I b.c] 30 30
    rw [hW]
    obtain ⟨⟨j0, j1, j2, j3, j4, j5⟩, _⟩ := b1.row6
    exact bodyPost_ret (v := .agg #[I b.x, I b.y, I b.z, I b.a, I 1, I b.c]) (by simp [results, Tryz.f140, go_sem, j0, j1, j2, j3, j4, j5]) rfl ⟨rfl, hB0⟩
  · simp only [axI, upB]
    go_enter Tryz.func140, Tryz.ntmps140
    go_wp2
    obtain ⟨W, hW, hB0, b0, b1⟩ := two_start w #[I b.x, I b.y, I b.z, I b.a, I b.b, I 1] #[I b.x, I b.y, I b.z, I b.a, I b.b, I 1] 30 30
    rw [hW]
    obtain ⟨⟨j0, j1, j2, j3, j4, j5⟩, _⟩ := b1.row6
    exact bodyPost_ret (v := .agg #[I b.x, I b.y, I b.z, I b.a, I b.b, I 1]) (by simp [results, Tryz.f140, go_sem, j0, j1, j2, j3, j4, j5]) rfl ⟨rfl, hB0⟩

end Go.Proofs.YtlahfffgmfjpaaaGreatDoor

/-
  Lists of whole numbers: a list behind another one, and two numbers behind a list.
-/
namespace Go.Proofs.YtlahfffgmfjpaaaGreatDoor
open Go Go.RowKit Go.Shelf

end Go.Proofs.YtlahfffgmfjpaaaGreatDoor

/-
  A list behind another one, while a third one stays: where the longer list lies.
-/
namespace Go.Proofs.YtlahfffgmfjpaaaGreatDoor
open Go Go.RowKit Go.Shelf

/-- What is appended to lies where it lay, or in new memory. -/
theorem cat_row {W : World} {base : Nat} {v : Value} {xs : List Int} {news : List Value} {ad : Addr} {c : Nat} (ty : TypeId) {i : TypeInfo} (hi : Tryz.prog.info? 3 = some i) (hz0 : i.zero = some (.int .i64 0)) (hz1 : i.size = 1) (hz2 : i.bytes = 8)
    (hown : Lst W base v xs) (hnews : ∀ j u, news[j]? = some u → W.cell? (ad.add j) = some u) (h1 : ∀ u ∈ news, u.oneCell' = true) (hlen : xs.length + news.length ≤ 1000000) {v' : Value} {w' : World}
    (hr : (Builtin.append_ #[158, 158] ty #[v, .slice (some ad) news.length c]).run Tryz.prog W = .ok v' w') : ∀ g, v'.ownBlock = some g → v.ownBlock = some g ∨ W.heap.size ≤ g := by
  intro g hg
  have ht := Tryz.underlying158
  have hl : news.length = news.length * i.size := by rw [hz1, Nat.mul_one]
  obtain ⟨hx, hown⟩ := hown
  rcases hown with ⟨rfl, hn⟩ | ⟨g0, cap, cur, rfl, hbg, hg0, hnc, hcm, hcs, htake⟩
  · by_cases hm : news.length = 0
    · have hn : news = [] := List.eq_nil_of_length_eq_zero hm
      subst hn
      have hr' : (Builtin.append_ #[158, 158] ty #[.slice none 0 0, .slice (some ad) 0 c]).run Tryz.prog W = .ok (.slice none 0 0) W := by
        simp [Builtin.append_, run_underlying ht, sizeOf, typeInfo, hi, Builtin.lenOf, Builtin.firstCells, loadCells, loadCellsFrom]
      rw [List.length_nil, hr'] at hr
      simp only [Result.ok.injEq] at hr
      rw [← hr.1] at hg
      simp [Value.ownBlock] at hg
    · have hr' := run_append_nil (P := Tryz.prog) W 158 ty 3 i _ ht hi hz0 ad news.length c news hl hnews (by omega) (by omega) (by rw [hz2]; omega)
      rw [hr'] at hr
      simp only [Result.ok.injEq] at hr
      rw [← hr.1] at hg
      simp [Value.ownBlock] at hg
      exact .inr (by omega)
  · by_cases hroom : xs.length + news.length ≤ cap
    · have hr' := run_append_room (P := Tryz.prog) W 158 ty 3 i ht hi g0 xs.length cap cur hg0 ad news.length c news hl hnews h1 hroom (by rw [hz1, hcs]; omega)
      rw [hr'] at hr
      simp only [Result.ok.injEq] at hr
      rw [← hr.1] at hg
      exact .inl hg
    · have holds : ∀ j u, (xs.map (Value.int .i64))[j]? = some u → W.cell? ((⟨g0, 0, none⟩ : Addr).add j) = some u :=
        World.ownsRow.cells (base := base) (v := .slice (some ⟨g0, 0, none⟩) xs.length cap) ⟨hx, .inr ⟨g0, cap, cur, rfl, hbg, hg0, hnc, hcm, hcs, htake⟩⟩ (g := g0) rfl
      have hr' := run_append_grow (P := Tryz.prog) W 158 ty 3 i _ ht hi hz0 ⟨g0, 0, none⟩ xs.length cap (xs.map (Value.int .i64)) (by rw [hz1]; exact hx) holds ad news.length c news hl hnews (by omega) (by omega) (growslice_fits (by omega) (by rw [hz2]; omega))
      rw [hr'] at hr
      simp only [Result.ok.injEq] at hr
      rw [← hr.1] at hg
      simp [Value.ownBlock] at hg
      exact .inr (by omega)

/-- A list that does not lie where another one does. -/
def Beside (u v : Value) : Prop := ∀ g, u.ownBlock = some g → v.ownBlock ≠ some g
theorem Beside.of_old {W : World} {b n : Nat} {u v : Value} {xs ys : List Int} (hu : Lst W n u xs) {w : World} (hv : Lst w b v ys) (hn : w.heap.size ≤ n) : Beside u v := fun g hg hv' => by
  have h1 := (World.ownsRow.lt hu g hg).1
  have h2 := (World.ownsRow.lt hv g hv').2
  omega

/-- 'list = append(list, more...)', both lists a call's own; a third one stays as it is. -/
theorem wpList_catK {ops : Array Oper} {rest : List Oper} {o : Oper} {a : Act} {Q : Exit → Act → World → Prop} {W : World} {base b2 b3 : Nat} {v u k : Value} {xs ys zs : List Int} (hgd : o.guard = none) (s x : Operand)
    (ho : o.op = .call { callee := .builtin .append, args := #[s, x], argTypes := #[158, 158] }) (hs : a.eval s = v) (hx : a.eval x = u)
    (hown : Lst W base v xs) (hu : Lst W b2 u ys) (hk : Lst W b3 k zs) (hkv : Beside k v) (hl : xs.length ≤ 100000) (hl2 : ys.length ≤ 100000) (hb : base ≤ W.heap.size)
    (h : ∀ v' w', Lst w' base v' (xs ++ ys) → Lst w' b3 k zs → Beside k v' → Below base W w' → wpList Tryz.prog ops Q rest (a.put o.dst v') w') : wpList Tryz.prog ops Q (o :: rest) a W := by
  obtain ⟨i0, hi, hz0, hz1, hz2⟩ := info_parts info_int
  have hv := hu.view
  rcases hu.2 with ⟨rfl, hn⟩ | ⟨g, cap, cur, rfl, hg, hh, hc, hc2, hs2, ht⟩
  · have : ys = [] := List.length_eq_zero_iff.1 hn
    subst this
    rw [List.append_nil] at h
    exact wpList_append_own_none hgd s x 158 ho base 3 i0 1 Tryz.underlying158 hi v xs.length _ hs hown hx (h _ _ hown hk hkv (Below.refl _ _))
  · have hnews : ∀ j y, (ys.map (Value.int .i64))[j]? = some y → W.cell? ((⟨g, 0, none⟩ : Addr).add j) = some y := by
      intro j y hj
      have hjl : j < ys.length := by
        have := (List.getElem?_eq_some_iff.1 hj).1
        simpa using this
      obtain ⟨ao, c, e, hw⟩ := hv
      simp only [Value.slice.injEq] at e
      obtain ⟨rfl, -, -⟩ := e
      obtain ⟨g', cur', e, hB, hc'⟩ := hw j hjl
      simp only [Option.some.injEq, Addr.mk.injEq] at e
      obtain ⟨rfl, -, -⟩ := e
      have : (⟨g, 0, none⟩ : Addr).add j = ⟨g, j, none⟩ := by
        unfold Addr.add
        split
        · rename_i h0; subst h0; rfl
        · simp
      rw [this, hB.cell j, hc', ← hj]
      simp [hjl]
    have hone : ∀ y ∈ ys.map (Value.int .i64), y.oneCell' = true := by
      intro y hy
      obtain ⟨z, _, rfl⟩ := List.mem_map.1 hy
      rfl
    have hlm : (ys.map (Value.int .i64)).length = ys.length := by simp
    obtain ⟨v', w', hr, h2, h3, h4⟩ := run_append_own (P := Tryz.prog) W base 158 o.type 3 i0 (.int .i64 0) 1 8 Tryz.underlying158 hi hz0 hz1 hz2 rfl (by decide) v xs.length (xs.map (Value.int .i64)) hown ⟨g, 0, none⟩ ys.length cap (ys.map (Value.int .i64)) (by simp) hnews hone (by unfold maxLen; omega) (by omega) hb
    have hrow := cat_row (W := W) (v := v) (news := ys.map (Value.int .i64)) (c := cap) (ad := ⟨g, 0, none⟩) o.type hi hz0 hz1 hz2 hown hnews hone (by rw [hlm]; omega) (v' := v') (w' := w') (by rw [hlm]; exact hr)
    refine wpList_plain hgd fun K hK => ?_
    unfold Oper.wp execOp
    simp only [ho, resolve, invoke, builtin, Sem.run_bind, Sem.run_pure, Result.andThen_ok, List.map_toArray, List.map_cons, List.map_nil, hs, hx, hr]
    refine hK _ _ (h v' w' ?_ ?_ ?_ ?_)
    · unfold Lst
      rw [List.map_append, List.length_append]
      exact h2
    · refine World.ownsRow.kept hk h3 ?_
      cases e : k.ownBlock
      · exact .inl rfl
      · exact .inr fun e' => hkv _ e e'.symm
    · intro g' hg' hv'
      rcases hrow g' hv' with e | e
      · exact hkv _ hg' e
      · have := (World.ownsRow.lt hk g' hg').2
        omega
    · exact (Below.refl base W).grown h3 hb (fun k hk => (World.ownsRow.lt hown k hk).1)

/-- A cell below is written. -/
theorem Lst.store {W : World} {base : Nat} {v : Value} {xs : List Int} (h : Lst W base v xs) {B i : Nat} (hB : B < base) (u : Value) : Lst (W.setCell ⟨B, i, none⟩ u) base v xs := ownsRow_setCell_below h (a := ⟨B, i, none⟩) hB u

end Go.Proofs.YtlahfffgmfjpaaaGreatDoor

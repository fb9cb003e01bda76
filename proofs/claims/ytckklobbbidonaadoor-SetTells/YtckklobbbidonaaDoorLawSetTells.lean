/-
  The statement SetTells, walked.
-/
import Derived.Test.YtckklobbbidonaaDoorSetAlive
import Derived.Test.YtckklobbbidonaaDoorSetArg
namespace Go.Proofs.YtckklobbbidonaaDoor
open Go Go.RowKit Go.Shelf

theorem num_of {z : Int} (h : (Lit.int .i64 z).wf = true) : -9223372036854775808 ≤ z ∧ z ≤ 9223372036854775807 := by
  unfold Lit.wf at h
  simp [IntKind.min, IntKind.max, IntKind.signed, IntKind.bits] at h
  omega

theorem listR_len {n : Int} {ws : List Nat} : (listR n ws).length ≤ 100000 := by
  unfold listR
  split
  · rename_i h
    obtain ⟨h1, h2, hm⟩ := err_one h
    have := (mayS_iff.1 hm).1
    rw [ofN_len]
    have := listTo_len ws (64 * ws.length)
    unfold numsW
    omega
  · simp
theorem OfIs.len {n : Int} {l : List Int} {ws : List Nat} (h : OfIs n l ws) : ws.length ≤ 192 := by
  cases e : ofOk n l
  · rw [h.no e]; simp
  · rw [(h.yes e).len]
    unfold ofOk okN at e
    rw [Bool.and_eq_true] at e
    have := of_decide_eq_true e.1
    omega

set_option maxRecDepth 100000 in
set_option maxHeartbeats 8000000 in
theorem setTells_walk (n k : Int) (w : World) (hTab : TabOk w) (_wn : (Lit.int .i64 n).wf = true) {vs : Value} {s : List Nat} (hs : ArgW w vs s) {vl : Value} {l : List Int} (hl : ArgI w vl l) (_wl : ∀ x ∈ l, (Lit.int .i64 x).wf = true) (wk : (Lit.int .i64 k).wf = true) :
    Calls Tryd.prog 4 #[I n, vs, vl, I k] w fun e W' => e = .returned (.bool true) ∧ Below w.heap.size w W' := by
  have hsv : ∃ ao cap, vs = .slice ao s.length cap := by obtain ⟨ao, cap, e, _⟩ := hs.1.view; exact ⟨ao, cap, e⟩
  have hlv : ∃ ao cap, vl = .slice ao l.length cap := by obtain ⟨ao, cap, e, _⟩ := hl.1.view; exact ⟨ao, cap, e⟩
  obtain ⟨aS, cS, rfl⟩ := hsv
  obtain ⟨al, cl, rfl⟩ := hlv
  by_cases hls : s.length ≤ 300
  · by_cases hll : l.length ≤ 1000
    · have hkb := (num_of wk).2
      have C1 := fun (w' : World) (hv : Its w' (.slice al l.length cl) l) => of_calls w' hv (by omega) n
      have D1 := fun (w' : World) (hv : Its w' (.slice al l.length cl) l) => rof_calls w' hv (by omega) n
      have C2 := fun (w' : World) (ht : TabOk w') (u : Value) (hu : Wds w' u s) => list_calls w' ht hu n
      have D2 := fun (w' : World) (hu : Wds w' (.slice aS s.length cS) s) => rlist_calls w' hu n
      have C3 := fun (w' : World) (u : Value) (hu : Wds w' u s) => has_calls w' hu n k
      have D3 := fun (w' : World) (hu : Wds w' (.slice aS s.length cS) s) => rhas_calls w' hu n k hkb
      have C4 := fun (w' : World) (u : Value) (hu : Wds w' u s) => manyn_calls w' hu n
      have D4 := fun (w' : World) (hu : Wds w' (.slice aS s.length cS) s) => rmany_calls w' hu n
      have C5 := fun (w' : World) (u : Value) (hu : Wds w' u s) => chk_calls w' hu n
      have D5 := fun (w' : World) (hu : Wds w' (.slice aS s.length cS) s) => rcheck_calls w' hu n
      have l2 := listR_len (n := n) (ws := s)
      generalize errAll n [s] = er at *
      generalize ofErr n l = eo at *
      generalize listR n s = ls at *
      generalize hasR n s k = qk at *
      generalize manyR n s = mm at *
      clear wk _wn _wl
      go_enter Tryd.func4, Tryd.ntmps4
      go_wp2_with (at_builtin; refine wpList_copy rfl _ _ rfl rfl rfl hs (by omega) ?_; intro vo w1 hO hT1)
      have hA := hs.1.later hT1
      have hI := hl.1.later hT1
      have hTab1 := hTab.later hT1
      clear hs hl hTab
      go_wp2_with fail
      refine (C1 _ hI).mono ?_
      rintro e w2 ⟨a, wa, rfl, ha, ja, hT⟩
      clear C1
      go_wp2_with fail
      refine (D1 _ (hI.later hT)).mono ?_
      rintro e w3 ⟨b, wb, rfl, hb, jb, hT3⟩
      obtain rfl := ja.ext jb
      have la := ja.len
      have ha := ha.later hT3
      have hT := then_below hT hT3
      clear D1 hT3 hI ja jb
      go_wp2_with fail
      refine (C2 _ (hTab1.later hT) _ (hO.later hT)).mono ?_
      rintro e w4 ⟨c, rfl, hc, hT3⟩
      have ha := ha.later hT3
      have hb := hb.later hT3
      have hT := then_below hT hT3
      clear C2 hT3 hTab1
      go_wp2_with fail
      refine (D2 _ (hA.later hT)).mono ?_
      rintro e w5 ⟨d, rfl, hd, hT3⟩
      have ha := ha.later hT3
      have hb := hb.later hT3
      have hc := hc.later hT3
      have hT := then_below hT hT3
      clear D2 hT3
      go_wp2_with fail
      refine (C3 _ _ (hO.later hT)).mono ?_
      rintro e w6 ⟨rfl, hT3⟩
      have ha := ha.later hT3
      have hb := hb.later hT3
      have hc := hc.later hT3
      have hd := hd.later hT3
      have hT := then_below hT hT3
      clear C3 hT3
      go_wp2_with fail
      refine (D3 _ (hA.later hT)).mono ?_
      rintro e w7 ⟨rfl, hw⟩
      subst hw
      clear D3
      go_wp2_with fail
      refine (C4 _ _ (hO.later hT)).mono ?_
      rintro e w8 ⟨rfl, hT3⟩
      have ha := ha.later hT3
      have hb := hb.later hT3
      have hc := hc.later hT3
      have hd := hd.later hT3
      have hT := then_below hT hT3
      clear C4 hT3
      go_wp2_with fail
      refine (D4 _ (hA.later hT)).mono ?_
      rintro e w9 ⟨rfl, hT3⟩
      have ha := ha.later hT3
      have hb := hb.later hT3
      have hc := hc.later hT3
      have hd := hd.later hT3
      have hT := then_below hT hT3
      clear D4 hT3
      go_wp2_with fail
      refine (C5 _ _ (hO.later hT)).mono ?_
      rintro e w10 ⟨rfl, hT3⟩
      have ha := ha.later hT3
      have hb := hb.later hT3
      have hc := hc.later hT3
      have hd := hd.later hT3
      have hT := then_below hT hT3
      clear C5 hT3
      go_wp2_with fail
      refine (D5 _ (hA.later hT)).mono ?_
      rintro e w11 ⟨rfl, hw⟩
      subst hw
      clear D5
      go_wp2_with fail
      have S1 := same_calls _ ha.wds hb.wds (by omega)
      rw [decide_eq_true rfl] at S1
      refine S1.mono ?_
      rintro e w12 ⟨rfl, hT3⟩
      have hc := hc.later hT3
      have hd := hd.later hT3
      have hT := then_below hT hT3
      clear S1 hT3 ha hb
      go_wp2_with fail
      have S2 := ints2_calls _ hc.its hd.its l2
      rw [decide_eq_true rfl] at S2
      refine S2.mono ?_
      rintro e w13 ⟨rfl, hT3⟩
      have hT := then_below hT hT3
      clear S2 hT3 hc hd
      go_wp2_with fail
      have S3 := same_calls _ (hO.later hT) (hA.later hT) (by omega)
      rw [decide_eq_true rfl] at S3
      refine S3.mono ?_
      rintro e w14 ⟨rfl, hT3⟩
      have hT := then_below hT1 (then_below hT hT3)
      clear S3 hT3 hO hA
      go_wp2
      go_ret
      exact ⟨rfl, hT⟩
    · clear hs hl hTab wk
      go_enter Tryd.func4, Tryd.ntmps4
      go_wp2
      go_ret
      exact ⟨rfl, Below.refl _ _⟩
  · clear hs hl hTab wk
    go_enter Tryd.func4, Tryd.ntmps4
    go_wp2
    go_ret
    exact ⟨rfl, Below.refl _ _⟩

end Go.Proofs.YtckklobbbidonaaDoor

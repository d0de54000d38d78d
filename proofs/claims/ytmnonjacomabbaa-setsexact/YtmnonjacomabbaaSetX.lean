/- The walk of constablelaw04.SetsBoth: it answers true, whatever the lists and the fact. -/
import Derived.Test.YtmnonjacomabbaaSetW
import Derived.Test.YtmnonjacomabbaaSetO
import Derived.Test.YtmnonjacomabbaaSetM
namespace Go.Proofs.Ytmnonjacomabbaa
open Go.RowKit
open V

/-- A contract that adds to memory alone, at every world of a region that draws its order. -/
theorem cls {F : FuncId} {args : Array Value} {v : Value} {wr : World} (c : ∀ W, Below wr.heap.size wr W → Calls Try.prog F args W fun e w' => e = .returned v ∧ Below W.heap.size W w') :
    ∀ d os, Calls Try.prog F args (Sort.grow (redrawn wr d) os) fun e w'' => e = .returned v ∧ ∃ p : Regrown, w'' = Sort.grow (redrawn wr p.d) p.os :=
  fun d os => Calls.regrown_of (c _ (below_regrown wr d os))

theorem keepFacts_t (a a' : Option Addr) (len cap len' cap' : Nat) (xs ys : List Fb) (w : World) (hr : RowF w a xs) (hr' : RowF w a' ys) (hl : len = xs.length) (hm : len' = ys.length) (h1k : len ≤ 1000) (hL : ∀ f ∈ xs, f.len ≤ 1000) (H : xs.map Fb.l = ys.map Fb.l) :
    Calls Try.prog 18 #[.slice a len cap, .slice a' len' cap'] w fun e w' => e = .returned (.bool true) ∧ Below w.heap.size w w' :=
  keepFacts_any a a' len cap len' cap' xs ys true w hr hr' (by omega) (by omega) (by omega) (by omega) h1k hL (hide (by simp [H]))

theorem all_of {l : List Fc} (h : l.all rightF = true) : (ofL cmpF l).all rightF = true := by
  rw [List.all_eq_true] at h ⊢
  exact fun x hx => h x ((mem_of ord_fact l x).1 hx)
theorem set_of {l : List Fc} (h : l.all rightF = true) : setB (ofL cmpF l) = true := by
  simp only [setB, Bool.and_eq_true]
  exact ⟨all_of h, B_of_rise (rise_of ord_fact l)⟩
theorem set_all {l : List Fc} (h : setB l = true) : l.all rightF = true := by
  simp only [setB, Bool.and_eq_true] at h
  exact h.1
theorem len_of_le {l : List Fc} : (ofL cmpF l).length ≤ l.length :=
  List.Nodup.length_le_of_subset (rise_nodup ord_fact (rise_of ord_fact l)) (fun x hx => (mem_of ord_fact l x).1 hx)

set_option maxHeartbeats 8000000 in
set_option maxRecDepth 100000 in
theorem both_law (al am : Option Addr) (ll cl lm cm : Nat) (xs ys : List Fb) (f : Fb) (w : World) (hx : RowF w al xs) (hy : RowF w am ys) (hlx : ll = xs.length) (hly : lm = ys.length) (nx : al = none → cl = 0) (ny : am = none → cm = 0) (hf : f.In w) :
    Calls Try.prog 6 #[.slice al ll cl, .slice am lm cm, .agg #[.string f.n, .slice f.a f.len f.cap]] w fun e w' => e = .returned (.bool true) ∧ Below w.heap.size w w' := by
  have hba : Below w.heap.size w (w.alloc (bxO f)) := (Below.refl _ _).alloc (Nat.le_refl _) _
  obtain ⟨j0, j1⟩ := pair_of (heap_alloc_new w (bxO f))
  have hm1 := many_any al ll cl xs _ (hx.on hba) (by omega) (by omega)
  have hm2 := fun W hb => many_any am lm cm ys W (hy.on hb) (by omega) (by omega)
  have HLX := hide hlx
  have HLY := hide hly
  have NX := hide nx
  have NY := hide ny
  clear hlx hly nx ny
  go_enter Try.func6, Try.ntmps6
  go_wp2_with fail
  refine hm1.mono ?_
  rintro e w1 ⟨rfl | ⟨rfl, hl60, hLx⟩, hb1⟩
  · have hw1 := bt hba hb1
    clear hm1 hm2 j0 j1
    go_wp2_with fail
    go_ret
    exact ⟨rfl, hw1⟩
  have hm2' := hm2 w1 (bt hba hb1)
  have i0 := cell_on hb1 j0
  have i1 := cell_on hb1 j1
  have hw1 := bt hba hb1
  clear hm1 hm2 hba hb1 j0 j1
  go_wp2_with fail
  refine hm2'.mono ?_
  rintro e w2 ⟨rfl | ⟨rfl, hm60, hLy⟩, hb2⟩
  · have hw2 := bt hw1 hb2
    clear hm2' i0 i1
    go_wp2_with fail
    go_ret
    exact ⟨rfl, hw2⟩
  have hh := heavy_fb f w2 (hf.on (bt hw1 hb2))
  have j0 := cell_on hb2 i0
  have j1 := cell_on hb2 i1
  have hw2 := bt hw1 hb2
  clear hm2' hw1 hb2 i0 i1
  go_wp2_with fail
  refine hh.mono ?_
  rintro e w3 ⟨rfl | ⟨rfl, lf⟩, hb3⟩
  · have hw3 := bt hw2 hb3
    clear hh j0 j1
    go_wp2_with fail
    go_ret
    exact ⟨rfl, hw3⟩
  have i0 := cell_on hb3 j0
  have i1 := cell_on hb3 j1
  have hw3 := bt hw2 hb3
  clear hh hw2 hb3 j0 j1
  go_wp2_with fail
  cases hs1 : setB (xs.map Fb.l) with
  | false =>
    refine (refSet_any al ll cl xs false w3 (hx.on hw3) (by rw [unhide HLX]; omega) (by rw [unhide HLX]; omega) (by omega) hLx (hide hs1)).mono ?_
    rintro e w4 ⟨rfl, hb4⟩
    have hw4 := bt hw3 hb4
    clear i0 i1 hs1
    go_wp2_with fail
    go_ret
    exact ⟨rfl, hw4⟩
  | true =>
    refine (refSet_any al ll cl xs true w3 (hx.on hw3) (by rw [unhide HLX]; omega) (by rw [unhide HLX]; omega) (by omega) hLx (hide hs1)).mono ?_
    rintro e w4 ⟨rfl, hb4⟩
    have j0 := cell_on hb4 i0
    have j1 := cell_on hb4 i1
    have hw4 := bt hw3 hb4
    have HS1 := hide hs1
    clear i0 i1 hs1 hw3 hb4
    go_wp2_with fail
    cases hs2 : setB (ys.map Fb.l) with
    | false =>
      refine (refSet_any am lm cm ys false w4 (hy.on hw4) (by rw [unhide HLY]; omega) (by rw [unhide HLY]; omega) (by omega) hLy (hide hs2)).mono ?_
      rintro e w5 ⟨rfl, hb5⟩
      have hw5 := bt hw4 hb5
      clear j0 j1 hs2
      go_wp2_with fail
      go_ret
      exact ⟨rfl, hw5⟩
    | true =>
      refine (refSet_any am lm cm ys true w4 (hy.on hw4) (by rw [unhide HLY]; omega) (by rw [unhide HLY]; omega) (by omega) hLy (hide hs2)).mono ?_
      rintro e w5 ⟨rfl, hb5⟩
      have i0 := cell_on hb5 j0
      have i1 := cell_on hb5 j1
      have hw5 := bt hw4 hb5
      have HS2 := hide hs2
      have hc1 := both_ok al am ll cl lm cm xs ys w5 (hx.on hw5) (hy.on hw5) (unhide HLX) (unhide HLY) (by omega) (by omega) hLx hLy (unhide NX) (unhide NY) (hide (by rw [unhide HS1, hs2]; rfl))
      clear j0 j1 hs2 hw4 hb5
      go_wp2_with fail
      refine hc1.mono ?_
      rintro e w6 ⟨a1, n1, k1, g1, rfl, hT1, hb6⟩
      have hw6 := bt hw5 hb6
      have j0 := cell_on hb6 i0
      have j1 := cell_on hb6 i1
      have hc2 := both_ok am al lm cm ll cl ys xs w6 (hy.on hw6) (hx.on hw6) (unhide HLY) (unhide HLX) (by omega) (by omega) hLy hLx (unhide NY) (unhide NX) (hide (by rw [unhide HS1, unhide HS2]; rfl))
      have HT1 := hide hT1
      clear hc1 hT1 hw5 hb6 i0 i1
      go_wp2_with fail
      refine hc2.mono ?_
      rintro e w7 ⟨a2, n2, k2, g2, rfl, hT2, hb7⟩
      have hw7 := bt hw6 hb7
      have i0 := cell_on hb7 j0
      have i1 := cell_on hb7 j1
      have hc3 := both_ok al al ll cl ll cl xs xs w7 (hx.on hw7) (hx.on hw7) (unhide HLX) (unhide HLX) (by omega) (by omega) hLx hLx (unhide NX) (unhide NX) (hide (by rw [unhide HS1]; rfl))
      have HT1' := hide ((unhide HT1).on hb7)
      have HT2 := hide hT2
      clear hc2 hT2 hw6 hb7 j0 j1 HT1
      go_wp2_with fail
      refine hc3.mono ?_
      rintro e w8 ⟨a3, n3, k3, g3, rfl, hT3, hb8⟩
      have hw8 := bt hw7 hb8
      have c0 := cell_on hb8 i0
      have c1 := cell_on hb8 i1
      have T1 := (unhide HT1').on hb8
      have T2 := (unhide HT2).on hb8
      have l1 : n1 ≤ 120 := by
        have h1 := T1.lenl
        have h2 := len_of_le (l := xs.map Fb.l ++ ys.map Fb.l)
        simp only [List.length_append, List.length_map, ← unhide HLX, ← unhide HLY] at h2
        omega
      have l3 : n3 ≤ 120 := by
        have h1 := hT3.lenl
        have h2 := len_of_le (l := xs.map Fb.l ++ xs.map Fb.l)
        simp only [List.length_append, List.length_map, ← unhide HLX] at h2
        omega
      have hR1 := set_rise (unhide HS1)
      have e12 : g1.map Fb.l = g2.map Fb.l := by
        rw [T1.eq, T2.eq]
        exact of_same ord_fact (fun x => by rw [List.mem_append, List.mem_append]; exact Or.comm)
      have e3 : g3.map Fb.l = xs.map Fb.l := by
        rw [hT3.eq, of_same ord_fact (l := xs.map Fb.l ++ xs.map Fb.l) (m := xs.map Fb.l) (fun x => by rw [List.mem_append, or_self])]
        exact of_rise ord_fact hR1
      have esB : chk (setB (g1.map Fb.l)) = 0 := by
        rw [T1.eq]
        refine chk_t (set_of ?_)
        rw [List.all_append, set_all (unhide HS1), set_all (unhide HS2)]; rfl
      have F1 := cls (wr := w8) (fun W hb => keepFacts_t a1 a2 n1 k1 n2 k2 g1 g2 W (T1.on hb).row (T2.on hb).row T1.len T2.len (by omega) T1.len1k e12)
      have F2 := cls (wr := w8) (fun W hb => keepFacts_t a3 al n3 k3 ll cl g3 xs W (hT3.on hb).row (hx.on (bt hw8 hb)) hT3.len (unhide HLX) (by omega) hT3.len1k e3)
      have F3 := cls (wr := w8) (fun W hb => scheck_x a1 n1 k1 g1 0 W (T1.on hb).row (by rw [T1.len]; omega) (by rw [← T1.len]; omega) (by omega) T1.light (hide esB))
      obtain ⟨q2, hq2⟩ : ∃ q, decide (f.l ∈ xs.map Fb.l) = q := ⟨_, rfl⟩
      obtain ⟨q3, hq3⟩ : ∃ q, decide (f.l ∈ ys.map Fb.l) = q := ⟨_, rfl⟩
      have hq1 : decide (f.l ∈ g1.map Fb.l) = (q2 || q3) := by
        rw [T1.eq, ← hq2, ← hq3, Bool.eq_iff_iff]
        simp only [decide_eq_true_eq, Bool.or_eq_true]
        rw [mem_of ord_fact, List.mem_append]
      have F4 := cls (wr := w8) (fun W hb => has_any a1 n1 k1 g1 f (q2 || q3) W (T1.on hb).row (hf.on (bt hw8 hb)) (by rw [T1.len]; omega) (by rw [← T1.len]; omega) (by omega) T1.len1k (hide hq1))
      have F5 := cls (wr := w8) (fun W hb => has_any al ll cl xs f q2 W (hx.on (bt hw8 hb)) (hf.on (bt hw8 hb)) (by rw [unhide HLX]; omega) (by rw [unhide HLX]; omega) (by omega) (fun g hg => by have := (hLx g hg).len; omega) (hide hq2))
      have F6 := cls (wr := w8) (fun W hb => has_any am lm cm ys f q3 W (hy.on (bt hw8 hb)) (hf.on (bt hw8 hb)) (by rw [unhide HLY]; omega) (by rw [unhide HLY]; omega) (by omega) (fun g hg => by have := (hLy g hg).len; omega) (hide hq3))
      have F7 := cls (wr := w8) (fun W _ => wakes_any W)
      have m0 := cell_regrown c0
      have m1 := cell_regrown c1
      clear hc3 hT3 T1 T2 hq1 hq2 hq3 esB e3 e12 hR1 l1 l3 HT1' HT2 HS1 HS2 HLX HLY NX NY hw7 hb8 i0 i1 hLx hLy hl60 hm60 lf hx hy hf c0 c1
      go_wp2_with fail
      cases q2 with
      | true =>
        simp only [Bool.true_or] at F4
        refine wp_region_quiet_below (by kernel_rfl) (by kernel_rfl) ?_
        repeat (go_big_quiet_step (first | with_reducible exact F1 _ _ | with_reducible exact F2 _ _ | with_reducible exact F3 _ _ | with_reducible exact F4 _ _ | with_reducible exact F5 _ _ | with_reducible exact F7 _ _))
        refine wpQuiet_nil ?_
        intro _ hw'
        obtain ⟨⟨dq, osq⟩, hw''⟩ := hw'
        subst hw''
        have hbw' := bt hw8 (below_regrown w8 dq osq)
        clear F1 F2 F3 F4 F5 F6 F7 m0 m1
        generalize Sort.grow (redrawn w8 dq) osq = w9 at hbw'
        go_wp2_with fail
        go_ret
        exact ⟨rfl, hbw'⟩
      | false =>
        simp only [Bool.false_or] at F4
        cases q3 with
        | true =>
          refine wp_region_quiet_below (by kernel_rfl) (by kernel_rfl) ?_
          repeat (go_big_quiet_step (first | with_reducible exact F1 _ _ | with_reducible exact F2 _ _ | with_reducible exact F3 _ _ | with_reducible exact F4 _ _ | with_reducible exact F5 _ _ | with_reducible exact F6 _ _ | with_reducible exact F7 _ _))
          refine wpQuiet_nil ?_
          intro _ hw'
          obtain ⟨⟨dq, osq⟩, hw''⟩ := hw'
          subst hw''
          have hbw' := bt hw8 (below_regrown w8 dq osq)
          clear F1 F2 F3 F4 F5 F6 F7 m0 m1
          generalize Sort.grow (redrawn w8 dq) osq = w9 at hbw'
          go_wp2_with fail
          go_ret
          exact ⟨rfl, hbw'⟩
        | false =>
          refine wp_region_quiet_below (by kernel_rfl) (by kernel_rfl) ?_
          repeat (go_big_quiet_step (first | with_reducible exact F1 _ _ | with_reducible exact F2 _ _ | with_reducible exact F3 _ _ | with_reducible exact F4 _ _ | with_reducible exact F5 _ _ | with_reducible exact F6 _ _ | with_reducible exact F7 _ _))
          refine wpQuiet_nil ?_
          intro _ hw'
          obtain ⟨⟨dq, osq⟩, hw''⟩ := hw'
          subst hw''
          have hbw' := bt hw8 (below_regrown w8 dq osq)
          clear F1 F2 F3 F4 F5 F6 F7 m0 m1
          generalize Sort.grow (redrawn w8 dq) osq = w9 at hbw'
          go_wp2_with fail
          go_ret
          exact ⟨rfl, hbw'⟩
end Go.Proofs.Ytmnonjacomabbaa

/- The walk of constablelaw04.SetsDrop: it answers true, whatever the list and the facts. -/
import Derived.Test.YtmnonjacomabbaaSetX
namespace Go.Proofs.Ytmnonjacomabbaa
open Go.RowKit
open V

theorem set_put {l : List Fc} {x : Fc} (h : setB l = true) (hx : rightF x = true) : setB (putL cmpF l x) = true := by
  simp only [setB, Bool.and_eq_true]
  refine ⟨?_, B_of_rise (rise_put ord_fact (set_rise h))⟩
  rw [List.all_eq_true]
  intro y hy
  rcases (mem_put x y l).1 hy with rfl | hy
  · exact hx
  · exact List.all_eq_true.1 (set_all h) y hy
theorem drop_put_drop {l : List Fc} {x : Fc} (h : Rise cmpF l) : dropL (putL cmpF l x) x = dropL l x := by
  refine rise_ext ord_fact (rise_drop (rise_put ord_fact h)) (rise_drop h) (fun y => ?_)
  rw [mem_drop', mem_drop', mem_put]
  constructor
  · rintro ⟨h1 | h1, h2⟩
    · exact absurd h1 h2
    · exact ⟨h1, h2⟩
  · rintro ⟨h1, h2⟩
    exact ⟨Or.inr h1, h2⟩
theorem len_put_le {l : List Fc} {x : Fc} : (putL cmpF l x).length ≤ l.length + 1 := by
  unfold putL
  split
  · omega
  · rw [len_ins]; omega
theorem len_drop_le {l : List Fc} {x : Fc} : (dropL l x).length ≤ l.length := List.length_filter_le _ _

set_option maxHeartbeats 8000000 in
set_option maxRecDepth 100000 in
theorem drop_law (al : Option Addr) (ll cl : Nat) (xs : List Fb) (f g : Fb) (w : World) (hx : RowF w al xs) (hlx : ll = xs.length) (hcap : ll ≤ cl) (hf : f.In w) (hg : g.In w) :
    Calls Try.prog 5 #[.slice al ll cl, .agg #[.string f.n, .slice f.a f.len f.cap], .agg #[.string g.n, .slice g.a g.len g.cap]] w fun e w' => e = .returned (.bool true) ∧ Below w.heap.size w w' := by
  have hba : Below w.heap.size w ((w.alloc (bxO f)).alloc (bxO g)) := ((Below.refl _ _).alloc (Nat.le_refl _) _).alloc (by simp) _
  have B0 := bx2 w f g al al xs xs hf hg hx hx
  have hn1 : ll ≤ xs.length := by omega
  have hn2 : xs.length ≤ ll := by omega
  have hm1 := many_any al ll cl xs _ B0.xs hn1 hn2
  have HLX := hide hlx
  have HB0 := hide B0
  clear hlx B0
  go_enter Try.func5, Try.ntmps5
  go_wp2_with fail
  refine hm1.mono ?_
  rintro e w1 ⟨rfl | ⟨rfl, hl60, hLx⟩, hb1⟩
  · have hw1 := bt hba hb1
    clear hm1
    go_wp2_with fail
    go_ret
    exact ⟨rfl, hw1⟩
  have B1 := (unhide HB0).on hb1
  have hw1 := bt hba hb1
  have c0 := B1.a0
  have c1 := B1.a1
  have hh := heavy_fb f w1 B1.f
  have HB1 := hide B1
  clear hm1 hba hb1 HB0 B1
  go_wp2_with fail
  refine hh.mono ?_
  rintro e w2 ⟨rfl | ⟨rfl, lf⟩, hb2⟩
  · have hw2 := bt hw1 hb2
    clear hh c0 c1
    go_wp2_with fail
    go_ret
    exact ⟨rfl, hw2⟩
  have B2 := (unhide HB1).on hb2
  have hw2 := bt hw1 hb2
  clear hh c0 c1
  have d0 := B2.b0
  have d1 := B2.b1
  have hh := heavy_fb g w2 B2.g
  have HB2 := hide B2
  clear HB1 B2 hw1 hb2
  go_wp2_with fail
  refine hh.mono ?_
  rintro e w3 ⟨rfl | ⟨rfl, lg⟩, hb3⟩
  · have hw3 := bt hw2 hb3
    clear hh d0 d1
    go_wp2_with fail
    go_ret
    exact ⟨rfl, hw3⟩
  have B3 := (unhide HB2).on hb3
  have hw3 := bt hw2 hb3
  have HB3 := hide B3
  clear hh d0 d1 HB2 hw2 hb3 B3
  go_wp2_with fail
  cases hs1 : setB (xs.map Fb.l) with
  | false =>
    refine (refSet_any al ll cl xs false w3 (unhide HB3).xs hn1 hn2 (by omega) hLx (hide hs1)).mono ?_
    rintro e w4 ⟨rfl, hb4⟩
    have hw4 := bt hw3 hb4
    clear hs1
    go_wp2_with fail
    go_ret
    exact ⟨rfl, hw4⟩
  | true =>
  refine (refSet_any al ll cl xs true w3 (unhide HB3).xs hn1 hn2 (by omega) hLx (hide hs1)).mono ?_
  rintro e w4 ⟨rfl, hb4⟩
  have B4 := (unhide HB3).on hb4
  have hw4 := bt hw3 hb4
  have HS1 := hide hs1
  have c0 := B4.a0
  have c1 := B4.a1
  have HB4 := hide B4
  clear hs1 HB3 hw3 hb4 B4
  go_wp2_with fail
  cases hrf : rightF f.l with
  | false =>
    refine (refFact_q f false w4 (unhide HB4).f lf (hide hrf)).mono ?_
    rintro e w5 ⟨rfl, hb5⟩
    have hw5 := bt hw4 hb5
    clear hrf c0 c1
    go_wp2_with fail
    go_ret
    exact ⟨rfl, hw5⟩
  | true =>
  refine (refFact_q f true w4 (unhide HB4).f lf (hide hrf)).mono ?_
  rintro e w5 ⟨rfl, hb5⟩
  have B5 := (unhide HB4).on hb5
  have hw5 := bt hw4 hb5
  have HRF := hide hrf
  clear hrf c0 c1 hw4 hb5 HB4
  have hR := set_rise (unhide HS1)
  have HR := hide hR
  clear hR
  have c0 := B5.a0
  have c1 := B5.a1
  have hp := put_ok al ll cl xs f 0 0 w5 B5.xs B5.f hn1 hn2 (by omega) hcap hLx lf (hide (chk_t (unhide HS1))) (hide (chk_t (unhide HRF))) (hide rfl) (hide (unhide HR))
  have HB5 := hide B5
  clear B5
  go_wp2_with fail
  refine hp.mono ?_
  rintro e w6 ⟨a1, n1, k1, g1, rfl, hT1, hb6⟩
  have B6 := (unhide HB5).on hb6
  have hw6 := bt hw5 hb6
  have hl1 : n1 ≤ 61 := by
    have h1 := hT1.lenl
    have h2 := len_put_le (l := xs.map Fb.l) (x := f.l)
    simp only [List.length_map] at h2
    omega
  have hS2 : setB (g1.map Fb.l) = true := by rw [hT1.eq]; exact set_put (unhide HS1) (unhide HRF)
  clear hp c0 c1 HB5 hw5 hb6
  have c0 := B6.a0
  have c1 := B6.a1
  have hd := drop_ok a1 n1 k1 g1 f 0 0 w6 hT1.row B6.f (by rw [hT1.len]; omega) (by rw [← hT1.len]; omega) (by omega) hT1.cap hT1.light lf (hide (chk_t hS2)) (hide (chk_t (unhide HRF))) (hide rfl) (hide (set_rise hS2))
  rw [hT1.eq] at hd
  have HT1 := hide hT1
  have HB6 := hide B6
  clear hT1 B6 hS2
  go_wp2_with fail
  refine hd.mono ?_
  rintro e w7 ⟨a2, n2, k2, g2, rfl, hT2, hb7⟩
  have B7 := (unhide HB6).on hb7
  have hw7 := bt hw6 hb7
  have HT1' := hide ((unhide HT1).on hb7)
  clear hd c0 c1 HB6 hw6 hb7 HT1
  have hl2 : n2 ≤ 61 := by
    have h1 := hT2.lenl
    have h2 := len_drop_le (l := putL cmpF (xs.map Fb.l) f.l) (x := f.l)
    have h3 := (unhide HT1').lenl
    omega
  have HT2 := hide hT2
  clear hT2
  have c0 := B7.a0
  have c1 := B7.a1
  have hd := drop_ok al ll cl xs f 0 0 w7 B7.xs B7.f hn1 hn2 (by omega) hcap hLx lf (hide (chk_t (unhide HS1))) (hide (chk_t (unhide HRF))) (hide rfl) (hide (unhide HR))
  have HB7 := hide B7
  clear B7
  go_wp2_with fail
  refine hd.mono ?_
  rintro e w8 ⟨a3, n3, k3, g3, rfl, hT3, hb8⟩
  have B8 := (unhide HB7).on hb8
  have hw8 := bt hw7 hb8
  have T1 := (unhide HT1').on hb8
  have T2 := (unhide HT2).on hb8
  clear hd c0 c1 HB7 hw7 hb8 HT1' HT2
  have c0 := B8.a0
  have c1 := B8.a1
  have e23 : g2.map Fb.l = g3.map Fb.l := by rw [T2.eq, hT3.eq]; exact drop_put_drop (unhide HR)
  have h1 := has_any a1 n1 k1 g1 f true w8 T1.row B8.f (by rw [T1.len]; omega) (by rw [← T1.len]; omega) (by omega) T1.len1k (hide (by rw [T1.eq]; simp only [decide_eq_true_eq]; exact (mem_put _ _ _).2 (Or.inl rfl)))
  have h2 := fun W hb => has_any a2 n2 k2 g2 f false W (T2.on hb).row (hf.on (bt hw8 hb)) (by rw [T2.len]; omega) (by rw [← T2.len]; omega) (by omega) T2.len1k (hide (by rw [T2.eq]; simp only [decide_eq_false_iff_not]; rw [mem_drop']; exact fun h => h.2 rfl))
  have h3 := fun W hb => keepFacts_t a2 a3 n2 k2 n3 k3 g2 g3 W (T2.on hb).row (hT3.on hb).row T2.len hT3.len (by omega) T2.len1k e23
  have HB8 := hide B8
  have HT1 := hide T1
  have HT2 := hide T2
  clear B8 T1 T2 hT3 e23
  go_wp2_with fail
  refine h1.mono ?_
  rintro e w9 ⟨rfl, hb9⟩
  have h2' := h2 w9 hb9
  have m0 := cell_on hb9 c0
  have m1 := cell_on hb9 c1
  clear h1 h2 c0 c1
  go_wp2_with fail
  refine h2'.mono ?_
  rintro e w10 ⟨rfl, hb10⟩
  have hb810 := bt hb9 hb10
  have h3' := h3 w10 hb810
  clear h2' h3 m0 m1 hb9 hb10
  go_wp2_with fail
  refine h3'.mono ?_
  rintro e w11 ⟨rfl, hb11⟩
  have hb811 := bt hb810 hb11
  have B11 := (unhide HB8).on hb811
  have hw11 := bt hw8 hb811
  have T1 := (unhide HT1).on hb811
  have T2 := (unhide HT2).on hb811
  clear h3' HB8 HT1 HT2 hb811 hb810 hb11 hw8
  have c0 := B11.a0
  have c1 := B11.a1
  have d0 := B11.b0
  have d1 := B11.b1
  have hfi := B11.f
  have hgi := B11.g
  have hxi := B11.xs
  clear B11
  by_cases hfg : f.l = g.l
  · have hk := keepFact_q f g true w11 hfi hgi (by have := lf.len; omega) (hide (by simp [hfg]))
    clear hfg T1 T2
    go_wp2_with fail
    refine hk.mono ?_
    rintro e w12 ⟨rfl, hb12, _, _⟩
    clear hk c0 c1 d0 d1
    go_wp2_with fail
    refine (wakes_any w12).mono ?_
    rintro e w13 ⟨rfl, hb13⟩
    have hfin := bt (bt hw11 hb12) hb13
    go_wp2_with fail
    go_ret
    exact ⟨rfl, hfin⟩
  · have hk := keepFact_q f g false w11 hfi hgi (by have := lf.len; omega) (hide (by simp [hfg]))
    obtain ⟨q, hq⟩ : ∃ q, decide (g.l ∈ xs.map Fb.l) = q := ⟨_, rfl⟩
    obtain ⟨p, hpq⟩ : ∃ p, decide (f.l ∈ xs.map Fb.l) = p := ⟨_, rfl⟩
    have hgf : g.l ≠ f.l := fun e => hfg e.symm
    have q1 : decide (g.l ∈ g1.map Fb.l) = q := by
      rw [T1.eq, ← hq, Bool.eq_iff_iff]
      simp only [decide_eq_true_eq]
      rw [mem_put]
      exact ⟨fun h => h.resolve_left hgf, Or.inr⟩
    have q2 : decide (g.l ∈ g2.map Fb.l) = q := by
      rw [T2.eq, ← hq, Bool.eq_iff_iff]
      simp only [decide_eq_true_eq]
      rw [mem_drop', mem_put]
      exact ⟨fun h => h.1.resolve_left hgf, fun h => ⟨Or.inr h, hgf⟩⟩
    have eb : p = false → g2.map Fb.l = xs.map Fb.l := by
      intro hp0
      rw [T2.eq]
      refine drop_put ord_fact (unhide HR) ?_
      rw [hp0] at hpq
      exact of_decide_eq_false hpq
    clear hfg hgf
    go_wp2_with fail
    refine hk.mono ?_
    rintro e w12 ⟨rfl, hb12, _, _⟩
    have hw12 := bt hw11 hb12
    have m0 := cell_regrown (cell_on hb12 c0)
    have m1 := cell_regrown (cell_on hb12 c1)
    have m2 := cell_regrown (cell_on hb12 d0)
    have m3 := cell_regrown (cell_on hb12 d1)
    have F1 := cls (wr := w12) (fun W hb => has_any a1 n1 k1 g1 g q W (T1.on (bt hb12 hb)).row (hg.on (bt hw12 hb)) (by rw [T1.len]; omega) (by rw [← T1.len]; omega) (by omega) T1.len1k (hide q1))
    have F2 := cls (wr := w12) (fun W hb => has_any al ll cl xs g q W (hx.on (bt hw12 hb)) (hg.on (bt hw12 hb)) hn1 hn2 (by omega) (fun f hf => by have := (hLx f hf).len; omega) (hide hq))
    have F3 := cls (wr := w12) (fun W hb => has_any a2 n2 k2 g2 g q W (T2.on (bt hb12 hb)).row (hg.on (bt hw12 hb)) (by rw [T2.len]; omega) (by rw [← T2.len]; omega) (by omega) T2.len1k (hide q2))
    have F4 := cls (wr := w12) (fun W hb => has_any al ll cl xs f p W (hx.on (bt hw12 hb)) (hf.on (bt hw12 hb)) hn1 hn2 (by omega) (fun f hf => by have := (hLx f hf).len; omega) (hide hpq))
    have F6 := cls (wr := w12) (fun W _ => wakes_any W)
    have F5 := fun hp0 => cls (wr := w12) (fun W hb => keepFacts_t a2 al n2 k2 ll cl g2 xs W (T2.on (bt hb12 hb)).row (hx.on (bt hw12 hb)) T2.len (unhide HLX) (by omega) T2.len1k (eb hp0))
    clear hk T1 T2 q1 q2 hq hpq eb c0 c1 d0 d1 hfi hgi hxi hw11 hb12 HLX hLx hx hf hg HS1 HRF HR lf lg
    go_wp2_with fail
    cases p with
    | true =>
      clear F5
      cases q with
      | true =>
        refine wp_region_quiet_below (by kernel_rfl) (by kernel_rfl) ?_
        repeat (go_big_quiet_step (first | with_reducible exact F1 _ _ | with_reducible exact F2 _ _ | with_reducible exact F3 _ _ | with_reducible exact F4 _ _ | with_reducible exact F6 _ _))
        refine wpQuiet_nil ?_
        intro _ hw'
        obtain ⟨⟨dq, osq⟩, hw''⟩ := hw'
        subst hw''
        have hbw' := bt hw12 (below_regrown w12 dq osq)
        clear F1 F2 F3 F4 F6 m0 m1 m2 m3
        generalize Sort.grow (redrawn w12 dq) osq = w9 at hbw'
        go_wp2_with fail
        go_ret
        exact ⟨rfl, hbw'⟩
      | false =>
        refine wp_region_quiet_below (by kernel_rfl) (by kernel_rfl) ?_
        repeat (go_big_quiet_step (first | with_reducible exact F1 _ _ | with_reducible exact F2 _ _ | with_reducible exact F3 _ _ | with_reducible exact F4 _ _ | with_reducible exact F6 _ _))
        refine wpQuiet_nil ?_
        intro _ hw'
        obtain ⟨⟨dq, osq⟩, hw''⟩ := hw'
        subst hw''
        have hbw' := bt hw12 (below_regrown w12 dq osq)
        clear F1 F2 F3 F4 F6 m0 m1 m2 m3
        generalize Sort.grow (redrawn w12 dq) osq = w9 at hbw'
        go_wp2_with fail
        go_ret
        exact ⟨rfl, hbw'⟩
    | false =>
      have F5' := F5 rfl
      clear F5
      cases q with
      | true =>
        refine wp_region_quiet_below (by kernel_rfl) (by kernel_rfl) ?_
        repeat (go_big_quiet_step (first | with_reducible exact F1 _ _ | with_reducible exact F2 _ _ | with_reducible exact F3 _ _ | with_reducible exact F4 _ _ | with_reducible exact F5' _ _ | with_reducible exact F6 _ _))
        refine wpQuiet_nil ?_
        intro _ hw'
        obtain ⟨⟨dq, osq⟩, hw''⟩ := hw'
        subst hw''
        have hbw' := bt hw12 (below_regrown w12 dq osq)
        clear F1 F2 F3 F4 F5' F6 m0 m1 m2 m3
        generalize Sort.grow (redrawn w12 dq) osq = w9 at hbw'
        go_wp2_with fail
        go_ret
        exact ⟨rfl, hbw'⟩
      | false =>
        refine wp_region_quiet_below (by kernel_rfl) (by kernel_rfl) ?_
        repeat (go_big_quiet_step (first | with_reducible exact F1 _ _ | with_reducible exact F2 _ _ | with_reducible exact F3 _ _ | with_reducible exact F4 _ _ | with_reducible exact F5' _ _ | with_reducible exact F6 _ _))
        refine wpQuiet_nil ?_
        intro _ hw'
        obtain ⟨⟨dq, osq⟩, hw''⟩ := hw'
        subst hw''
        have hbw' := bt hw12 (below_regrown w12 dq osq)
        clear F1 F2 F3 F4 F5' F6 m0 m1 m2 m3
        generalize Sort.grow (redrawn w12 dq) osq = w9 at hbw'
        go_wp2_with fail
        go_ret
        exact ⟨rfl, hbw'⟩
end Go.Proofs.Ytmnonjacomabbaa

/- The walk of constablelaw05.SubstBack: it answers true, whatever the list, the names, the values. -/
import Derived.Test.YtmhpoommgdjbiaaSubX
namespace Go.Proofs.Ytmhpoommgdjbiaa
open Go.RowKit
open V

theorem put_got {xs us : List Bb} {n : ByteArray} {v : Vv} (h : bothR xs [(n, v)] = (us, true)) : getR us n = (v, true) := by
  obtain ⟨_, _, h3, h4⟩ := both_ok h
  exact getR_some (get_some h3 (by rw [h4]; exact mem_un.2 (Or.inr (by simp))))
theorem put_again {xs us : List Bb} {n : ByteArray} {v : Vv} (h : bothR xs [(n, v)] = (us, true)) : bothR us [(n, v)] = (us, true) := by
  obtain ⟨_, h2, h3, h4⟩ := both_ok h
  have e : unL us [(n, v)] = us := un_eq (list_rise h3) (fun x => by
    constructor
    · exact Or.inl
    · rintro (hx | hx)
      · exact hx
      · rw [List.mem_singleton.1 hx, h4]; exact mem_un.2 (Or.inr (by simp)))
  rw [both_t h3 h2 (by rw [e]; exact h3), e]
theorem put_other {xs us : List Bb} {n : ByteArray} {v u : Vv} (h : bothR xs [(n, v)] = (us, true)) (hne : v ≠ u) : bothR us [(n, u)] = ([], false) := by
  obtain ⟨_, _, h3, h4⟩ := both_ok h
  refine both_f (fun ⟨_, _, h5⟩ => hne ?_)
  have h6 := list_one h5 (x := (n, v)) (y := (n, u)) (mem_un.2 (Or.inl (by rw [h4]; exact mem_un.2 (Or.inr (by simp))))) (mem_un.2 (Or.inr (by simp))) rfl
  exact (Prod.mk.inj h6).2
theorem put_rest {xs us : List Bb} {n o : ByteArray} {v : Vv} (h : bothR xs [(n, v)] = (us, true)) (hne : o ≠ n) : getR us o = getR xs o := by
  obtain ⟨h1, _, h3, h4⟩ := both_ok h
  have e : getL us o = getL xs o := by
    apply Option.ext
    intro u
    rw [get_iff h3, get_iff h1, h4, mem_un]
    constructor
    · rintro (hx | hx)
      · exact hx
      · simp only [List.mem_singleton, Prod.mk.injEq] at hx
        exact absurd hx.1 hne
    · exact Or.inl
  unfold getR; rw [e]
theorem lt_put {xs us : List Bb} {n : ByteArray} {v : Vv} {ok : Bool} (h : bothR xs [(n, v)] = (us, ok)) (hx : ∀ x ∈ xs, Lt x) (hn : n.size ≤ 200) (hv : v.2.2.size ≤ 200) : ∀ x ∈ us, Lt x := by
  cases ok with
  | false => rw [both_no h]; intro x hx; cases hx
  | true =>
    rw [(both_ok h).2.2.2]
    exact lt_un hx (fun y hy => by rw [List.mem_singleton.1 hy]; exact ⟨hn, hv⟩)

/-- The two boxed values of the law. -/
structure Two (W : World) (b : Nat) (v u : Vv) : Prop where
  a0 : W.cell? ⟨b, 0, none⟩ = some (.int .i64 v.1)
  a1 : W.cell? ⟨b, 1, none⟩ = some (.int .i64 v.2.1)
  a2 : W.cell? ⟨b, 2, none⟩ = some (.string v.2.2)
  b0 : W.cell? ⟨b + 1, 0, none⟩ = some (.int .i64 u.1)
  b1 : W.cell? ⟨b + 1, 1, none⟩ = some (.int .i64 u.2.1)
  b2 : W.cell? ⟨b + 1, 2, none⟩ = some (.string u.2.2)
theorem Two.on {W w1 : World} {b : Nat} {v u : Vv} (T : Two W b v u) (hb : Below W.heap.size W w1) : Two w1 b v u :=
  ⟨cell_on hb T.a0, cell_on hb T.a1, cell_on hb T.a2, cell_on hb T.b0, cell_on hb T.b1, cell_on hb T.b2⟩
abbrev bxV (v : Vv) : Obj := .cells #[.int .i64 v.1, .int .i64 v.2.1, .string v.2.2] 24
theorem two_of (w : World) (v u : Vv) : Two ((w.alloc (bxV v)).alloc (bxV u)) w.heap.size v u := by
  have k1 := heap_alloc_new (w.alloc (bxV v)) (bxV u)
  rw [show (w.alloc (bxV v)).heap.size = w.heap.size + 1 by simp] at k1
  have k0 : ((w.alloc (bxV v)).alloc (bxV u)).heap[w.heap.size]? = some (bxV v) := (Lib.alloc_old _ _ _ (by simp)).trans (heap_alloc_new w _)
  obtain ⟨x0, x1, x2⟩ := trip_of k0
  obtain ⟨y0, y1, y2⟩ := trip_of k1
  exact ⟨x0, x1, x2, y0, y1, y2⟩

set_option maxHeartbeats 8000000 in
set_option maxRecDepth 100000 in
theorem back_law (al : Option Addr) (ll cl : Nat) (xs : List Bb) (nm ot : ByteArray) (v u : Vv) (w : World) (hx : Lies w al ll cl xs) :
    Calls Try.prog 4 #[.slice al ll cl, .string nm, .string ot, .agg #[.int .i64 v.1, .int .i64 v.2.1, .string v.2.2], .agg #[.int .i64 u.1, .int .i64 u.2.1, .string u.2.2]] w fun e w' => e = .returned (.bool true) ∧ Below w.heap.size w w' := by
  have hb0 : Below w.heap.size w ((w.alloc (bxV v)).alloc (bxV u)) := ((Below.refl _ _).alloc (Nat.le_refl _) _).alloc (by simp) _
  have T := two_of w v u
  have hx0 := hx.on hb0
  have hm1 := heavy_any al ll cl xs _ hx0.row hx0.le hx0.ge
  go_enter Try.func4, Try.ntmps4
  go_wp2_with fail
  refine hm1.mono ?_
  rintro e w1 ⟨rfl | ⟨rfl, hl1, hLx⟩, hb1⟩
  · have hw1 := bt hb0 hb1
    clear hm1 hx0 T
    go_wp2_with fail
    go_ret
    exact ⟨rfl, hw1⟩
  have hw1 := bt hb0 hb1
  obtain ⟨a0, a1, a2, b0, b1, b2⟩ := T.on hb1
  clear hm1 hx0 T hb0 hb1
  by_cases h1 : 200 < nm.size
  · have d1 := size_t h1
    clear h1
    go_wp2_with fail
    go_ret
    exact ⟨rfl, hw1⟩
  have d1 := size_f h1
  by_cases h2 : 200 < ot.size
  · have d2 := size_t h2
    clear h1 h2
    go_wp2_with fail
    go_ret
    exact ⟨rfl, hw1⟩
  have d2 := size_f h2
  by_cases h3 : 200 < v.2.2.size
  · have d3 := size_t h3
    clear h1 h2 h3
    go_wp2_with fail
    go_ret
    exact ⟨rfl, hw1⟩
  have d3 := size_f h3
  by_cases h4 : 200 < u.2.2.size
  · have d4 := size_t h4
    clear h1 h2 h3 h4
    go_wp2_with fail
    go_ret
    exact ⟨rfl, hw1⟩
  have d4 := size_f h4
  replace h1 : nm.size ≤ 200 := by omega
  replace h2 : ot.size ≤ 200 := by omega
  replace h3 : v.2.2.size ≤ 200 := by omega
  replace h4 : u.2.2.size ≤ 200 := by omega
  have HH := hide (And.intro h1 (And.intro h2 (And.intro h3 h4)))
  clear h1 h2 h3 h4
  go_wp2_with fail
  clear d1 d2 d3 d4
  obtain ⟨⟨us, ok⟩, hu⟩ : ∃ r, bothR xs [(nm, v)] = r := ⟨_, rfl⟩
  have HU := hide hu
  clear hu
  refine (put_any al ll cl xs us nm v ok w1 (hx.on hw1) (by omega) hLx (unhide HH).1 (unhide HH).2.2.1 HU).mono ?_
  rintro e w2 ⟨q1, n1, k1, rfl, hT1, hb2⟩
  have hw2 := bt hw1 hb2
  cases ok with
  | false =>
    have hu := both_no (unhide HU)
    subst hu
    obtain rfl : n1 = 0 := hT1.len
    clear hT1 a0 a1 a2 b0 b1 b2 hb2
    go_wp2_with fail
    refine (wakes_any w2).mono ?_
    rintro e w3 ⟨rfl, hb3⟩
    go_wp2_with fail
    go_ret
    exact ⟨rfl, bt hw2 hb3⟩
  | true =>
    have T2 := (⟨a0, a1, a2, b0, b1, b2⟩ : Two w1 w.heap.size v u).on hb2
    have hn1 : n1 ≤ 100 := by rw [hT1.len]; exact list_len (both_list (unhide HU))
    have hLu := lt_put (unhide HU) hLx (unhide HH).1 (unhide HH).2.2.1
    have hc1 := get_any q1 n1 k1 us nm v true w2 hT1.row hT1.le hT1.ge (by omega) hLu (hide (put_got (unhide HU)))
    clear a0 a1 a2 b0 b1 b2 hb2 hw1
    go_wp2_with fail
    refine hc1.mono ?_
    rintro e w3 ⟨rfl, hb3⟩
    have hbx : Below w3.heap.size w3 (w3.alloc (bxV v)) := (Below.refl _ _).alloc (Nat.le_refl _) _
    have hw3 := bt (bt hw2 hb3) hbx
    have T3 := (T2.on hb3).on hbx
    have U3 := (hT1.on hb3).on hbx
    have hxx := trip_of (heap_alloc_new w3 (bxV v))
    obtain ⟨a0, a1, a2, b0, b1, b2⟩ := T3
    have hc2 := put_any q1 n1 k1 us us nm v true _ U3 (by omega) hLu (unhide HH).1 (unhide HH).2.2.1 (hide (put_again (unhide HU)))
    clear hc1 T2 hT1 hw2
    go_wp2_with fail
    refine hc2.mono ?_
    rintro e w4 ⟨q2, n2, k2, rfl, V4, hb4⟩
    have X4 : Two w4 w.heap.size v u := (⟨a0, a1, a2, b0, b1, b2⟩ : Two _ w.heap.size v u).on hb4
    have U4 := U3.on hb4
    have hw4 := bt hw3 hb4
    have c0 := cell_on hb4 hxx.1
    have c1 := cell_on hb4 hxx.2.1
    have c2 := cell_on hb4 hxx.2.2
    clear hc2 U3 a0 a1 a2 b0 b1 b2 hb4 hxx hw3 hb3 hbx
    obtain ⟨a0, a1, a2, b0, b1, b2⟩ := X4
    obtain ⟨⟨ys, yes⟩, hy⟩ : ∃ r, bothR us [(nm, u)] = r := ⟨_, rfl⟩
    have HY := hide hy
    have hq : yes = decide (v = u) ∧ (yes = false → ys = []) := by
      by_cases hvu : v = u
      · rw [← hvu, put_again (unhide HU)] at hy
        simp only [Prod.mk.injEq] at hy
        rw [← hy.2]
        exact ⟨by simp [hvu], fun h => by cases h⟩
      · rw [put_other (unhide HU) hvu] at hy
        simp only [Prod.mk.injEq] at hy
        rw [← hy.2, ← hy.1]
        exact ⟨by simp [hvu], fun _ => rfl⟩
    have HQ := hide hq
    have hc3 := put_any q1 n1 k1 us ys nm u yes w4 U4 (by omega) hLu (unhide HH).1 (unhide HH).2.2.2 HY
    clear hy hq
    go_wp2_with fail
    refine hc3.mono ?_
    rintro e w5 ⟨q3, n3, k3, rfl, Y5, hb5⟩
    have X5 : Two w5 w.heap.size v u := (⟨a0, a1, a2, b0, b1, b2⟩ : Two _ w.heap.size v u).on hb5
    have U5 := U4.on hb5
    have V5 := V4.on hb5
    have hw5 := bt hw4 hb5
    replace c0 := cell_on hb5 c0
    replace c1 := cell_on hb5 c1
    replace c2 := cell_on hb5 c2
    have hn3 : yes = false → n3 = 0 := fun h => by rw [Y5.len, (unhide HQ).2 h]; rfl
    have hy1 := (unhide HQ).1
    clear hc3 U4 V4 a0 a1 a2 b0 b1 b2 hb5 hw4 HQ HY Y5
    obtain ⟨a0, a1, a2, b0, b1, b2⟩ := X5
    have hE1 := eqV0 v v
    rw [decide_eq_true rfl] at hE1
    have hE2 := eqV0 v u
    rw [← hy1] at hE2
    clear hy1
    have hc4 := keep_t q1 q2 n1 k1 n2 k2 us us w5 U5 V5 (by omega) rfl
    go_wp2_with fail
    refine hc4.mono ?_
    rintro e w6 ⟨rfl, hb6⟩
    have X6 : Two w6 w.heap.size v u := (⟨a0, a1, a2, b0, b1, b2⟩ : Two _ w.heap.size v u).on hb6
    have U6 := U5.on hb6
    have hw6 := bt hw5 hb6
    clear hc4 U5 V5 a0 a1 a2 b0 b1 b2 hb6 hw5 c0 c1 c2 hE1
    obtain ⟨a0, a1, a2, b0, b1, b2⟩ := X6
    have hc5 := scheck_x q1 n1 k1 us 0 w6 U6 hLu (hide (chk_t (both_list (unhide HU))))
    go_wp2_with fail
    refine hc5.mono ?_
    rintro e w7 ⟨rfl, hb7⟩
    have X7 : Two w7 w.heap.size v u := (⟨a0, a1, a2, b0, b1, b2⟩ : Two _ w.heap.size v u).on hb7
    have U7 := U6.on hb7
    have hw7 := bt hw6 hb7
    clear hc5 U6 a0 a1 a2 b0 b1 b2 hb7 hw6
    obtain ⟨a0, a1, a2, b0, b1, b2⟩ := X7
    by_cases hno : ot = nm
    · have dn := str_t hno
      clear hno
      cases yes with
      | true =>
        clear hn3
        go_wp2_with fail
        refine (wakes_any w7).mono ?_
        rintro e w8 ⟨rfl, hb8⟩
        have hw8 := bt hw7 hb8
        clear a0 a1 a2 b0 b1 b2
        go_wp2_with fail
        go_ret
        exact ⟨rfl, hw8⟩
      | false =>
        obtain rfl := hn3 rfl
        clear hn3
        go_wp2_with fail
        refine (wakes_any w7).mono ?_
        rintro e w8 ⟨rfl, hb8⟩
        have hw8 := bt hw7 hb8
        clear a0 a1 a2 b0 b1 b2
        go_wp2_with fail
        go_ret
        exact ⟨rfl, hw8⟩
    · have dn := str_f hno
      obtain ⟨⟨gv, gq⟩, hg⟩ : ∃ r, getR xs ot = r := ⟨_, rfl⟩
      have HG := hide hg
      have HG' := hide ((put_rest (unhide HU) hno).trans hg)
      clear hg hno
      have hc6 := fun W hb => get_any al ll cl xs ot gv gq W (hx.on (bt hw7 hb)).row hx.le hx.ge (by omega) hLx HG
      cases yes with
      | true =>
        clear hn3
        go_wp2_with fail
        refine (hc6 w7 (Below.refl _ _)).mono ?_
        rintro e w8 ⟨rfl, hb8⟩
        have hbx : Below w8.heap.size w8 (w8.alloc (bxV gv)) := (Below.refl _ _).alloc (Nat.le_refl _) _
        have hw8 := bt (bt hw7 hb8) hbx
        have U8 := (U7.on hb8).on hbx
        obtain ⟨c0, c1, c2⟩ := trip_of (heap_alloc_new w8 (bxV gv))
        have hc7 := get_any q1 n1 k1 us ot gv gq _ U8.row U8.le U8.ge (by omega) hLu HG'
        have hbo : (gq == gq) = true := by simp
        have hE3 := eqV0 gv gv
        rw [decide_eq_true rfl] at hE3
        clear a0 a1 a2 b0 b1 b2 hc6 U7 hb8 hw7 hE2
        go_wp2_with fail
        refine hc7.mono ?_
        rintro e w9 ⟨rfl, hb9⟩
        have hby : Below w9.heap.size w9 (w9.alloc (bxV gv)) := (Below.refl _ _).alloc (Nat.le_refl _) _
        have hw9 := bt (bt hw8 hb9) hby
        replace c0 := cell_on hb9 c0
        replace c1 := cell_on hb9 c1
        replace c2 := cell_on hb9 c2
        have hlt := cell_lt c0
        clear hc7 U8 hb9 hw8 hbx
        go_wp2_with fail
        refine (wakes_any _).mono ?_
        rintro e w10 ⟨rfl, hb10⟩
        have hw10 := bt hw9 hb10
        clear c0 c1 c2 hE3 hb10 hby hw9
        go_wp2_with fail
        go_ret
        exact ⟨rfl, hw10⟩
      | false =>
        obtain rfl := hn3 rfl
        clear hn3
        go_wp2_with fail
        refine (hc6 w7 (Below.refl _ _)).mono ?_
        rintro e w8 ⟨rfl, hb8⟩
        have hbx : Below w8.heap.size w8 (w8.alloc (bxV gv)) := (Below.refl _ _).alloc (Nat.le_refl _) _
        have hw8 := bt (bt hw7 hb8) hbx
        have U8 := (U7.on hb8).on hbx
        obtain ⟨c0, c1, c2⟩ := trip_of (heap_alloc_new w8 (bxV gv))
        have hc7 := get_any q1 n1 k1 us ot gv gq _ U8.row U8.le U8.ge (by omega) hLu HG'
        have hbo : (gq == gq) = true := by simp
        have hE3 := eqV0 gv gv
        rw [decide_eq_true rfl] at hE3
        clear a0 a1 a2 b0 b1 b2 hc6 U7 hb8 hw7 hE2
        go_wp2_with fail
        refine hc7.mono ?_
        rintro e w9 ⟨rfl, hb9⟩
        have hby : Below w9.heap.size w9 (w9.alloc (bxV gv)) := (Below.refl _ _).alloc (Nat.le_refl _) _
        have hw9 := bt (bt hw8 hb9) hby
        replace c0 := cell_on hb9 c0
        replace c1 := cell_on hb9 c1
        replace c2 := cell_on hb9 c2
        have hlt := cell_lt c0
        clear hc7 U8 hb9 hw8 hbx
        go_wp2_with fail
        refine (wakes_any _).mono ?_
        rintro e w10 ⟨rfl, hb10⟩
        have hw10 := bt hw9 hb10
        clear c0 c1 c2 hE3 hb10 hby hw9
        go_wp2_with fail
        go_ret
        exact ⟨rfl, hw10⟩
end Go.Proofs.Ytmhpoommgdjbiaa

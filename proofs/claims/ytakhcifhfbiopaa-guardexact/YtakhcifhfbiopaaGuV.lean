/- The walk of constablelaw08.GuardExact: it answers true, whatever the way, the values, the condition, the list. -/
import Derived.Test.YtakhcifhfbiopaaGuW
import Derived.Test.YtakhcifhfbiopaaGuG
namespace Go.Proofs.Ytakhcifhfbiopaa.Sb
open Go.RowKit
open V
open Ex (RowO LiesO flatO)

theorem binds_x (a : Option Addr) (len cap : Nat) (xs : List Bb) (q : Bool) (w : World) (hA : Lies w a len cap xs) (hL : ∀ x ∈ xs, Lt x) (H : Hid (listB xs = q)) :
    Calls Try.prog 16 #[.slice a len cap] w fun e w' => e = .returned (.bool q) ∧ Below w.heap.size w w' := by
  have := refBinds_any a len cap xs w hA.row hA.le hA.ge hL
  rw [unhide H] at this
  exact this
/-- What the law is handed: two values, a condition, a list. -/
structure Ge (W : World) (p : Nat) (a b : Vv) (c : Cd) (am : Option Addr) (lm cm : Nat) (bs : List Bb) : Prop where
  t : B2 W p a b
  k : BC W (p + 1 + 1) c
  i : c.In W
  l : Lies W am lm cm bs
theorem Ge.on {W w1 : World} {p : Nat} {a b : Vv} {c : Cd} {am : Option Addr} {lm cm : Nat} {bs : List Bb} (T : Ge W p a b c am lm cm bs) (hb : Below W.heap.size W w1) : Ge w1 p a b c am lm cm bs := ⟨T.t.on hb, T.k.on hb, T.i.on hb, T.l.on hb⟩
theorem ge_of (w : World) (a b : Vv) (c : Cd) (am : Option Addr) (lm cm : Nat) (bs : List Bb) (hc : c.In w) (hl : Lies w am lm cm bs) : Ge (((w.alloc (bxV a)).alloc (bxV b)).alloc (bxC c)) w.heap.size a b c am lm cm bs ∧ Below w.heap.size w (((w.alloc (bxV a)).alloc (bxV b)).alloc (bxC c)) := by
  obtain ⟨hb, k0, k1, k2⟩ := three_of w (bxV a) (bxV b) (bxC c)
  obtain ⟨p0, p1, p2⟩ := trip_of k0
  obtain ⟨q0, q1, q2⟩ := trip_of k1
  exact ⟨⟨⟨p0, p1, p2, q0, q1, q2⟩, bc_of k2, hc.on hb, hl.on hb⟩, hb⟩
theorem bne_self (z : Bool) : (z != z) = false := by cases z <;> rfl
theorem geval_wrong {bs : List Bb} {c : Cd} (h : guardB c.k c.n c.m c.h c.xs c.ys = false ∨ listB bs = false) : gevalR bs c.k c.n c.m c.h c.xs c.ys = (false, 1) := by
  by_cases hg : guardB c.k c.n c.m c.h c.xs c.ys = true
  · have hl : listB bs = false := by
      rcases h with h | h
      · rw [hg] at h; cases h
      · exact h
    rw [geval_yes hg]
    have he : evalR bs c.xs = (zeroV, 1) := by unfold evalR; rw [if_neg (by simp [hl])]
    exact test_left he (by decide)
  · exact geval_no (by simpa using hg)

set_option maxHeartbeats 40000000 in
set_option maxRecDepth 100000 in
theorem exact_law (how : Int) (a b : Vv) (c : Cd) (am : Option Addr) (lm cm : Nat) (bs : List Bb) (w : World) (hc : c.In w) (hl : Lies w am lm cm bs) :
    Calls Try.prog 3 #[.int .i64 how, .agg #[.int .i64 a.1, .int .i64 a.2.1, .string a.2.2], .agg #[.int .i64 b.1, .int .i64 b.2.1, .string b.2.2], .agg #[.int .i64 c.k, .string c.n, .slice c.a c.m c.mc, .int .i64 c.h, .slice c.la c.ll c.lc, .slice c.ra c.rl c.rc], .slice am lm cm] w fun e w' => e = .returned (.bool true) ∧ Below w.heap.size w w' := by
  obtain ⟨T0, hw0⟩ := ge_of w a b c am lm cm bs hc hl
  clear hc hl
  by_cases h1 : 200 < a.2.2.size
  · have d1 := size_t h1
    clear h1 T0
    go_enter Try.func3, Try.ntmps3
    go_wp2_with fail
    go_ret
    exact ⟨rfl, hw0⟩
  have d1 := size_f h1
  by_cases h2 : 200 < b.2.2.size
  · have d2 := size_t h2
    clear h1 h2 T0
    go_enter Try.func3, Try.ntmps3
    go_wp2_with fail
    go_ret
    exact ⟨rfl, hw0⟩
  have d2 := size_f h2
  have ha : a.2.2.size ≤ 200 := by omega
  have hb : b.2.2.size ≤ 200 := by omega
  clear h1 h2
  have F := cheavy_any c _ T0.i
  go_enter Try.func3, Try.ntmps3
  go_wp2_with fail
  refine F.mono ?_
  rintro e w1 ⟨rfl | ⟨rfl, hL⟩, hb1⟩
  · have hw1 := bt hw0 hb1
    clear F T0 hw0 hb1 d1 d2
    go_wp2_with fail
    go_ret
    exact ⟨rfl, hw1⟩
  have T1 := T0.on hb1
  have hw1 := bt hw0 hb1
  clear F T0 hw0 hb1 d1 d2
  have F := heavy_any am lm cm bs w1 T1.l.row T1.l.le T1.l.ge
  go_wp2_with fail
  refine F.mono ?_
  rintro e w2 ⟨rfl | ⟨rfl, h110, hLb⟩, hb2⟩
  · have hw2 := bt hw1 hb2
    clear F T1 hw1 hb2
    go_wp2_with fail
    go_ret
    exact ⟨rfl, hw2⟩
  have HLb := hide hLb
  have T2 := T1.on hb2
  have hw2 := bt hw1 hb2
  clear F T1 hw1 hb2 hLb
  obtain ⟨c0, c1, c2, c3, c4, c5⟩ := T2.k
  have hbx := below_new w2 (bxC c)
  have T3 := T2.on hbx
  have hw3 := bt hw2 hbx
  have F := twinC_one w2.heap.size c (w2.alloc (bxC c)) T3.i hL (bc_of (heap_alloc_new w2 (bxC c)))
  go_wp2_with fail
  refine F.mono ?_
  rintro e w4 ⟨q, cq, a', mc', la', lc', ra', rc', rfl, hD, hI, hb4⟩
  have T4 := T3.on hb4
  have hw4 := bt hw3 hb4
  clear F T2 T3 hbx hb4 hw2 hw3 c0 c1 c2 c3 c4 c5
  obtain ⟨e0, e1, e2, e3, e4, e5⟩ := hD
  simp only at e0 e1 e2 e3 e4 e5
  have hbx := below_new w4 (bxC (c.tw a' mc' la' lc' ra' rc'))
  have T5 := T4.on hbx
  have hI5 := hI.on hbx
  have hw5 := bt hw4 hbx
  have D5 := bc_of (heap_alloc_new w4 (bxC (c.tw a' mc' la' lc' ra' rc')))
  obtain ⟨x, n, hx⟩ : ∃ x n, holdR how a b = (x, n) := ⟨_, _, rfl⟩
  have HX := hide hx
  clear hx T4 hI hbx hw4
  obtain ⟨a0, a1, a2, b0, b1, b2⟩ := T5.t
  have F := fun W => holds_any how a b x n W ha hb HX
  go_wp2_with fail
  refine (F _).mono ?_
  rintro e w6 ⟨rfl, hb6⟩
  have T6 := T5.on hb6
  have hI6 := hI5.on hb6
  have D6 := D5.on hb6
  have hw6 := bt hw5 hb6
  clear F T5 hI5 D5 hw5 hb6 a0 a1 a2 b0 b1 b2 e0 e1 e2 e3 e4 e5
  obtain ⟨a0, a1, a2, b0, b1, b2⟩ := T6.t
  have F := refHolds_any how a b x n w6 ha hb HX
  go_wp2_with fail
  refine F.mono ?_
  rintro e w7 ⟨rfl, hb7⟩
  have T7 := T6.on hb7
  have hI7 := hI6.on hb7
  have D7 := D6.on hb7
  have hw7 := bt hw6 hb7
  clear F T6 hI6 D6 hw6 hb7 a0 a1 a2 b0 b1 b2 HX
  generalize w4.heap.size = r at D7
  have hLd : (c.tw a' mc' la' lc' ra' rc').Light := ⟨hL.n, hL.m, hL.l, hL.r, hL.t, hL.x, hL.y⟩
  obtain ⟨v, g, hg⟩ : ∃ v g, gevalR bs c.k c.n c.m c.h c.xs c.ys = (v, g) := ⟨_, _, rfl⟩
  have HG := hide hg
  clear hg
  obtain ⟨d0, d1, d2, d3, d4, d5⟩ := D7
  simp only at d0 d1 d2 d3 d4 d5
  have F := geval_any (c.tw a' mc' la' lc' ra' rc') am lm cm bs v g w7 hI7 hLd T7.l (unhide HLb) HG
  go_wp2_with fail
  refine F.mono ?_
  rintro e w8 ⟨rfl, hb8⟩
  have T8 := T7.on hb8
  have hI8 := hI7.on hb8
  have D8 := (BC.mk (c := (c.tw a' mc' la' lc' ra' rc')) d0 d1 d2 d3 d4 d5).on hb8
  have hw8 := bt hw7 hb8
  have ex := bne_self x
  have en : (n != n) = false := by simp
  clear F T7 hI7 hw7 hb8 d0 d1 d2 d3 d4 d5
  obtain ⟨d0, d1, d2, d3, d4, d5⟩ := D8
  simp only at d0 d1 d2 d3 d4 d5
  obtain ⟨c0, c1, c2, c3, c4, c5⟩ := T8.k
  have F := keepCond_same (c.tw a' mc' la' lc' ra' rc') c.a c.mc c.la c.lc c.ra c.rc w8 hI8 T8.i hLd
  go_wp2_with fail
  refine F.mono ?_
  rintro e w9 ⟨rfl, hb9⟩
  have T9 := T8.on hb9
  have hI9 := hI8.on hb9
  have D9 := (BC.mk (c := (c.tw a' mc' la' lc' ra' rc')) d0 d1 d2 d3 d4 d5).on hb9
  have hw9 := bt hw8 hb9
  clear F T8 hI8 hw8 hb9 d0 d1 d2 d3 d4 d5 c0 c1 c2 c3 c4 c5 ex en
  obtain ⟨c0, c1, c2, c3, c4, c5⟩ := T9.k
  obtain ⟨z, hz⟩ : ∃ z, guardB c.k c.n c.m c.h c.xs c.ys = z := ⟨_, rfl⟩
  have F := refGuard_any c z w9 T9.i hL (hide hz)
  go_wp2_with fail
  refine F.mono ?_
  rintro e wA ⟨rfl, hbA⟩
  have TA := T9.on hbA
  have hIA := hI9.on hbA
  have DA := D9.on hbA
  have hwA := bt hw9 hbA
  clear F T9 hI9 D9 hw9 hbA c0 c1 c2 c3 c4 c5
  obtain ⟨d0, d1, d2, d3, d4, d5⟩ := DA
  simp only at d0 d1 d2 d3 d4 d5
  have F := gcheck_any (c.tw a' mc' la' lc' ra' rc') (chk z) wA hIA hLd (hide (by rw [← hz]))
  go_wp2_with fail
  refine F.mono ?_
  rintro e wB ⟨rfl, hbB⟩
  have TB := TA.on hbB
  have hIB := hIA.on hbB
  have DB := (BC.mk (c := (c.tw a' mc' la' lc' ra' rc')) d0 d1 d2 d3 d4 d5).on hbB
  have hwB := bt hwA hbB
  clear F TA hIA hwA hbB d0 d1 d2 d3 d4 d5
  cases z with
  | false =>
    rw [show chk false = 1 from rfl]
    obtain ⟨d0, d1, d2, d3, d4, d5⟩ := DB
    simp only at d0 d1 d2 d3 d4 d5
    have F := gcheck_any (c.tw a' mc' la' lc' ra' rc') 1 wB hIB hLd (hide (by rw [show guardB c.k c.n c.m c.h c.xs c.ys = false from hz]; rfl))
    cases (unhide HG).symm.trans (geval_wrong (Or.inl hz))
    clear hz HG HLb
    go_wp2_with fail
    refine F.mono ?_
    rintro e wC ⟨rfl, hbC⟩
    have hwC := bt hwB hbC
    clear F TB hIB hwB hbC d0 d1 d2 d3 d4 d5 hL hLd
    go_wp2_with fail
    refine (wakes_any _).mono ?_
    rintro e wD ⟨rfl, hbD⟩
    have hwD := bt hwC hbD
    clear hbD hwC
    go_wp2_with fail
    go_ret
    exact ⟨rfl, hwD⟩
  | true =>
  rw [show chk true = 0 from rfl]
  have HZ := hide hz
  clear hz DB
  obtain ⟨y, hy⟩ : ∃ y, listB bs = y := ⟨_, rfl⟩
  have F := binds_x am lm cm bs y wB TB.l (unhide HLb) (hide hy)
  go_wp2_with fail
  refine F.mono ?_
  rintro e wC ⟨rfl, hbC⟩
  have TC := TB.on hbC
  have hwC := bt hwB hbC
  clear F TB hIB hwB hbC
  cases y with
  | false =>
    cases (unhide HG).symm.trans (geval_wrong (Or.inr hy))
    clear hy HG HLb HZ TC hL hLd
    go_wp2_with fail
    refine (wakes_any _).mono ?_
    rintro e wD ⟨rfl, hbD⟩
    have hwD := bt hwC hbD
    clear hbD hwC
    go_wp2_with fail
    go_ret
    exact ⟨rfl, hwD⟩
  | true =>
  have HY := hide hy
  clear hy hLd
  obtain ⟨c0, c1, c2, c3, c4, c5⟩ := TC.k
  have hzz := guard_iff.1 (unhide HZ)
  have F := refTest_any c am lm cm bs v g wC TC.i hL TC.l (by omega) (unhide HLb) (hide hzz.2.2.2.2.1) (hide hzz.2.2.2.2.2) HY (hide ((geval_yes (unhide HZ)).symm.trans (unhide HG)))
  clear hzz
  go_wp2_with fail
  refine F.mono ?_
  rintro e wD ⟨rfl, hbD⟩
  have hwD := bt hwC hbD
  clear F TC hwC hbD c0 c1 c2 c3 c4 c5 HG HZ HY HLb hL
  have eg := int_same g
  have ev : (v == v) = true := by simp
  go_wp2_with fail
  refine (wakes_any _).mono ?_
  rintro e wE ⟨rfl, hbE⟩
  have hwE := bt hwD hbE
  clear hbE hwD eg ev
  go_wp2_with fail
  go_ret
  exact ⟨rfl, hwE⟩
end Go.Proofs.Ytakhcifhfbiopaa.Sb

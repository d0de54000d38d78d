/- What the document's Guard and Test answer. -/
import Derived.Test.YtakhcifhfbiopaaGuD
namespace Go.Proofs.Ytakhcifhfbiopaa.Sb
open Go.RowKit
open V
open Ex (RowO LiesO flatO)

theorem evalR_yes {b : List Bb} {l : List Oo} (h : exprB l = true) (k : listB b = true) : evalR b l = evalL b l := by
  unfold evalR
  rw [if_pos ⟨h, k⟩]
theorem refExpr_x (a : Option Addr) (len cap : Nat) (xs : List Oo) (q : Bool) (w : World) (hA : LiesO w a len cap xs) (hL : ∀ x ∈ xs, LtO x) (H : Hid (exprB xs = q)) :
    Calls Try.prog 21 #[.slice a len cap] w fun e w' => e = .returned (.bool q) ∧ Below w.heap.size w w' := by
  have := refExpr_any a len cap xs w hA.row hA.le hA.ge hL
  rw [unhide H] at this
  exact this
theorem sum_no {a b : Nat} (ha : a ≤ 200) (hb : b ≤ 20) : IntKind.i64.wrap ((a : Int) + (b : Int)) = (a : Int) + (b : Int) ∧ wrap64 ((a : Int) + (b : Int)) = (a : Int) + (b : Int) := by
  refine ⟨?_, ?_⟩
  · simp [IntKind.wrap, IntKind.bits, IntKind.signed]; omega
  · simp [wrap64]; omega

set_option maxHeartbeats 2000000 in
theorem refGuard_any (c : Cd) (q : Bool) (w : World) (hc : c.In w) (hL : c.Light) (H : Hid (guardB c.k c.n c.m c.h c.xs c.ys = q)) :
    Calls Try.prog 14 #[.agg #[.int .i64 c.k, .string c.n, .slice c.a c.m c.mc, .int .i64 c.h, .slice c.la c.ll c.lc, .slice c.ra c.rl c.rc]] w fun e w' => e = .returned (.bool q) ∧ Below w.heap.size w w' := by
  have hb0 := below_new w (bxC c)
  have T0 := bc_of (heap_alloc_new w (bxC c))
  have hc0 := hc.on hb0
  obtain ⟨e1, e2⟩ := sum_no hL.n hL.m
  by_cases hk : c.k = 3
  case neg =>
    have ek : (c.k == 3) = false := by simp [hk]
    have HR := hide (show false = q by rw [← unhide H]; simp [guardB, hk])
    clear T0 hc0 hk H hL hc e1 e2
    go_enter Try.func14, Try.ntmps14
    go_wp2_with fail
    go_ret
    exact ⟨ret_bool' (unhide HR), hb0⟩
  have ek : (c.k == 3) = true := by simp [hk]
  have HK := hide hk
  by_cases hz : c.n.size = 0 ∧ c.m = 0
  case neg =>
    have ez : ((c.n.size : Int) + (c.m : Int) == 0) = false := by simp; omega
    have HR := hide (show false = q by
      rw [← unhide H]
      cases hg : guardB c.k c.n c.m c.h c.xs c.ys with
      | false => rfl
      | true => have := guard_iff.1 hg; exact absurd ⟨this.2.1, this.2.2.1⟩ hz)
    clear hc0 hk hz H hL hc
    obtain ⟨c0, c1, c2, c3, c4, c5⟩ := T0
    go_enter Try.func14, Try.ntmps14
    go_wp2_with fail
    go_ret
    exact ⟨ret_bool' (unhide HR), hb0⟩
  have ez : ((c.n.size : Int) + (c.m : Int) == 0) = true := by simp [hz.1, hz.2]
  have HZ := hide hz
  clear hk hz
  obtain ⟨p, hp⟩ : ∃ p, wayB c.h = p := ⟨_, rfl⟩
  have F1 := fun W => refIn_q c.h 1 4 p W (hide hp)
  obtain ⟨c0, c1, c2, c3, c4, c5⟩ := T0
  go_enter Try.func14, Try.ntmps14
  go_wp2_with fail
  refine (F1 _).mono ?_
  rintro e w2 ⟨rfl, hw2⟩
  subst hw2
  clear F1 ek ez e1 e2
  cases p with
  | false =>
    have HR := hide (show false = q by rw [← unhide H]; simp [guardB, hp])
    clear c0 c1 c2 c3 c4 c5 hc0 H hL hc hp
    go_wp2_with fail
    go_ret
    exact ⟨ret_bool' (unhide HR), hb0⟩
  | true =>
  have HY := hide hp
  clear hp
  obtain ⟨p, hp⟩ : ∃ p, exprB c.xs = p := ⟨_, rfl⟩
  have F1 := refExpr_x c.la c.ll c.lc c.xs p _ hc0.x hL.x (hide hp)
  go_wp2_with fail
  refine F1.mono ?_
  rintro e w3 ⟨rfl, hb3⟩
  have T3 := (BC.mk c0 c1 c2 c3 c4 c5).on hb3
  have hc3 := hc0.on hb3
  have hw3 := bt hb0 hb3
  clear F1 hc0 hb0 hb3 c0 c1 c2 c3 c4 c5
  cases p with
  | false =>
    have HR := hide (show false = q by rw [← unhide H]; simp [guardB, hp])
    clear T3 hc3 H hL hc hp
    go_wp2_with fail
    go_ret
    exact ⟨ret_bool' (unhide HR), hw3⟩
  | true =>
  have HX := hide hp
  clear hp
  obtain ⟨c0, c1, c2, c3, c4, c5⟩ := T3
  obtain ⟨p, hp⟩ : ∃ p, exprB c.ys = p := ⟨_, rfl⟩
  have F1 := refExpr_x c.ra c.rl c.rc c.ys p w3 hc3.y hL.y (hide hp)
  go_wp2_with fail
  refine F1.mono ?_
  rintro e w4 ⟨rfl, hb4⟩
  have hw4 := bt hw3 hb4
  have HR := hide (show p = q by
    have hz := unhide HZ
    rw [← unhide H]
    simp [guardB, unhide HK, hz.1, hz.2, unhide HY, unhide HX, hp])
  clear F1 hc3 hw3 hb4 c0 c1 c2 c3 c4 c5 H hL hc hp
  go_wp2_with fail
  go_ret
  exact ⟨ret_bool' (unhide HR), hw4⟩

set_option maxHeartbeats 4000000 in
theorem refTest_any (c : Cd) (am : Option Addr) (lm cm : Nat) (bs : List Bb) (q : Bool) (n : Int) (w : World) (hc : c.In w) (hL : c.Light) (hB : Lies w am lm cm bs) (hlm : lm ≤ 1000) (hLb : ∀ x ∈ bs, Lt x) (HX : Hid (exprB c.xs = true)) (HY : Hid (exprB c.ys = true)) (HB : Hid (listB bs = true)) (HT : Hid (testR bs c.h c.xs c.ys = (q, n))) :
    Calls Try.prog 18 #[.agg #[.int .i64 c.k, .string c.n, .slice c.a c.m c.mc, .int .i64 c.h, .slice c.la c.ll c.lc, .slice c.ra c.rl c.rc], .slice am lm cm] w fun e w' => e = .returned (.tuple #[.bool q, .int .i64 n]) ∧ Below w.heap.size w w' := by
  have hb0 := below_new w (bxC c)
  have T0 := bc_of (heap_alloc_new w (bxC c))
  have hc0 := hc.on hb0
  have hB0 := hB.on hb0
  have HLb := hide hLb
  clear hB hc hLb
  obtain ⟨v, r, hv⟩ : ∃ v r, evalR bs c.xs = (v, r) := ⟨_, _, rfl⟩
  have HV := hide hv
  have hvs := evalR_small (unhide HLb) hL.x hv
  clear hv
  obtain ⟨c0, c1, c2, c3, c4, c5⟩ := T0
  have F1 := refEval_any c.la c.ll c.lc c.xs am lm cm bs v r _ hc0.x hL.x hB0 (unhide HLb) hlm HX (hide ((evalR_yes (unhide HX) (unhide HB)).symm.trans (unhide HV)))
  go_enter Try.func18, Try.ntmps18
  go_wp2_with fail
  refine F1.mono ?_
  rintro e w2 ⟨rfl, hb2⟩
  clear F1
  have hbx := below_new w2 (bxV v)
  have hbb := bt hb2 hbx
  have T2 := (BC.mk c0 c1 c2 c3 c4 c5).on hbb
  have hc2 := hc0.on hbb
  have hB2 := hB0.on hbb
  have hw2 := bt hb0 hbb
  obtain ⟨x0, x1, x2⟩ := trip_of (heap_alloc_new w2 (bxV v))
  clear hc0 hB0 hb0 hb2 hbb hbx c0 c1 c2 c3 c4 c5
  by_cases hr : r = 0
  case neg =>
    have er : (r != 0) = true := by simp [hr]
    have HR := hide ((test_left (how := c.h) (y := c.ys) (unhide HV) hr).symm.trans (unhide HT))
    clear hc2 hB2 hr HV HT HLb hL T2 x0 x1 x2 HX HY HB
    go_wp2_with fail
    go_ret2
    exact ⟨ret_hold (unhide HR), hw2⟩
  subst hr
  obtain ⟨u, r, hu⟩ : ∃ u r, evalR bs c.ys = (u, r) := ⟨_, _, rfl⟩
  have HU := hide hu
  have hus := evalR_small (unhide HLb) hL.y hu
  clear hu
  obtain ⟨c0, c1, c2, c3, c4, c5⟩ := T2
  have F1 := refEval_any c.ra c.rl c.rc c.ys am lm cm bs u r (w2.alloc (bxV v)) hc2.y hL.y hB2 (unhide HLb) hlm HY (hide ((evalR_yes (unhide HY) (unhide HB)).symm.trans (unhide HU)))
  go_wp2_with fail
  refine F1.mono ?_
  rintro e w3 ⟨rfl, hb3⟩
  clear F1
  have hbx := below_new w3 (bxV u)
  have hbb := bt hb3 hbx
  have T3 := (BC.mk c0 c1 c2 c3 c4 c5).on hbb
  replace x0 := cell_on hbb x0
  replace x1 := cell_on hbb x1
  replace x2 := cell_on hbb x2
  have hw3 := bt hw2 hbb
  obtain ⟨y0, y1, y2⟩ := trip_of (heap_alloc_new w3 (bxV u))
  clear hc2 hB2 hw2 hb3 hbb hbx c0 c1 c2 c3 c4 c5
  by_cases hr : r = 0
  case neg =>
    have er : (r != 0) = true := by simp [hr]
    have HR := hide ((test_right (how := c.h) (unhide HV) (unhide HU) hr).symm.trans (unhide HT))
    clear hr HV HT HU HLb hL T3 x0 x1 x2 y0 y1 y2 HX HY HB
    go_wp2_with fail
    go_ret2
    exact ⟨ret_hold (unhide HR), hw3⟩
  subst hr
  have HR := hide ((test_both (how := c.h) (unhide HV) (unhide HU)).symm.trans (unhide HT))
  have F2 := fun W => refHolds_any c.h v u q n W hvs hus HR
  clear HV HT HU HLb hL HR HX HY HB
  obtain ⟨c0, c1, c2, c3, c4, c5⟩ := T3
  clear c0 c1 c2 c4 c5
  go_wp2_with fail
  refine (F2 _).mono ?_
  rintro e w4 ⟨rfl, hb4⟩
  have hw4 := bt hw3 hb4
  clear F2 hb4 hw3 c3 x0 x1 x2 y0 y1 y2
  go_wp2_with fail
  go_ret2
  exact ⟨rfl, hw4⟩
end Go.Proofs.Ytakhcifhfbiopaa.Sb

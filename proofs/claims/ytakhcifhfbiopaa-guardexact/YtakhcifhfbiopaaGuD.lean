/- What guard.Eval, the document's Guard and Test answer. -/
import Derived.Test.YtakhcifhfbiopaaGuC
import Derived.Test.YtakhcifhfbiopaaExpL
namespace Go.Proofs.Ytakhcifhfbiopaa.Sb
open Go.RowKit
open V
open Ex (RowO LiesO flatO)

theorem evalL_small {b : List Bb} {l : List Oo} {v : Vv} {r : Int} (hb : ∀ x ∈ b, Lt x) (hl : ∀ x ∈ l, LtO x) (h : evalL b l = (v, r)) : v.2.2.size ≤ 200 := by
  unfold evalL at h
  cases hr : runV b [] l with
  | error e =>
    rw [hr] at h
    cases h
    decide
  | ok s =>
    have hs := runV_small hb hl (by simp) hr
    rw [hr] at h
    cases s with
    | nil => cases h; decide
    | cons u s => cases h; exact hs _ (by simp)
theorem evalR_small {b : List Bb} {l : List Oo} {v : Vv} {r : Int} (hb : ∀ x ∈ b, Lt x) (hl : ∀ x ∈ l, LtO x) (h : evalR b l = (v, r)) : v.2.2.size ≤ 200 := by
  unfold evalR at h
  split at h
  · exact evalL_small hb hl h
  · cases h; decide

set_option maxHeartbeats 4000000 in
theorem geval_any (c : Cd) (am : Option Addr) (lm cm : Nat) (bs : List Bb) (q : Bool) (n : Int) (w : World) (hc : c.In w) (hL : c.Light) (hB : Lies w am lm cm bs) (hLb : ∀ x ∈ bs, Lt x) (H : Hid (gevalR bs c.k c.n c.m c.h c.xs c.ys = (q, n))) :
    Calls Try.prog 12 #[.agg #[.int .i64 c.k, .string c.n, .slice c.a c.m c.mc, .int .i64 c.h, .slice c.la c.ll c.lc, .slice c.ra c.rl c.rc], .slice am lm cm] w fun e w' => e = .returned (.tuple #[.bool q, .int .i64 n]) ∧ Below w.heap.size w w' := by
  have hb0 := below_new w (bxC c)
  have T0 := bc_of (heap_alloc_new w (bxC c))
  have hc0 := hc.on hb0
  have hB0 := hB.on hb0
  obtain ⟨p, hp⟩ : ∃ p, guardB c.k c.n c.m c.h c.xs c.ys = p := ⟨_, rfl⟩
  have HLb := hide hLb
  clear hB hc hLb
  go_enter Try.func12, Try.ntmps12
  go_wp2_with fail
  generalize w.alloc (bxC c) = W at hb0 T0 hc0 hB0
  refine (gcheck_any c (chk p) W hc0 hL (hide (by rw [hp]))).mono ?_
  rintro e w1 ⟨rfl, hb1⟩
  have T1 := T0.on hb1
  have hc1 := hc0.on hb1
  have hB1 := hB0.on hb1
  have hw1 := bt hb0 hb1
  clear T0 hc0 hB0 hb0 hb1
  cases p with
  | false =>
    have HR := hide ((geval_no hp).symm.trans (unhide H))
    clear T1 hc1 hB1 hp H hL HLb
    rw [show chk false = 1 from rfl]
    go_wp2_with fail
    go_ret2
    exact ⟨ret_hold (unhide HR), hw1⟩
  | true =>
  have HT := hide ((geval_yes hp).symm.trans (unhide H))
  clear hp H
  rw [show chk true = 0 from rfl]
  obtain ⟨v, r, hv⟩ : ∃ v r, evalR bs c.xs = (v, r) := ⟨_, _, rfl⟩
  have HV := hide hv
  have hvs := evalR_small (unhide HLb) hL.x hv
  clear hv
  obtain ⟨c0, c1, c2, c3, c4, c5⟩ := T1
  have F1 := eval_any c.la c.ll c.lc c.xs am lm cm bs v r w1 hc1.x hL.x (by have := hL.l; omega) hB1 (unhide HLb) HV
  go_wp2_with fail
  refine F1.mono ?_
  rintro e w2 ⟨rfl, hb2⟩
  clear F1
  have hw2' := bt hw1 hb2
  have hbx := below_new w2 (bxV v)
  have hbb := bt hb2 hbx
  have T2 := (BC.mk c0 c1 c2 c3 c4 c5).on hbb
  have hc2 := hc1.on hbb
  have hB2 := hB1.on hbb
  have hw2 := bt hw1 hbb
  obtain ⟨x0, x1, x2⟩ := trip_of (heap_alloc_new w2 (bxV v))
  clear hc1 hB1 hw1 hb2 hbb hbx c0 c1 c2 c3 c4 c5 hw2'
  by_cases hr : r = 0
  case neg =>
    have er : (r != 0) = true := by simp [hr]
    have HR := hide ((test_left (how := c.h) (y := c.ys) (unhide HV) hr).symm.trans (unhide HT))
    clear hc2 hB2 hr HV HT HLb hL T2 x0 x1 x2
    go_wp2_with fail
    go_ret2
    exact ⟨ret_hold (unhide HR), hw2⟩
  subst hr
  obtain ⟨u, r, hu⟩ : ∃ u r, evalR bs c.ys = (u, r) := ⟨_, _, rfl⟩
  have HU := hide hu
  have hus := evalR_small (unhide HLb) hL.y hu
  clear hu
  obtain ⟨c0, c1, c2, c3, c4, c5⟩ := T2
  have F1 := eval_any c.ra c.rl c.rc c.ys am lm cm bs u r (w2.alloc (bxV v)) hc2.y hL.y (by have := hL.r; omega) hB2 (unhide HLb) HU
  go_wp2_with fail
  refine F1.mono ?_
  rintro e w3 ⟨rfl, hb3⟩
  clear F1
  have hbx := below_new w3 (bxV u)
  have hbb := bt hb3 hbx
  have T3 := (BC.mk c0 c1 c2 c3 c4 c5).on hbb
  replace x0 := cell_on hbb x0
  replace x1 := cell_on hbb x1
  replace x2 := cell_on hbb x2
  have hw3 := bt hw2 hbb
  obtain ⟨y0, y1, y2⟩ := trip_of (heap_alloc_new w3 (bxV u))
  clear hc2 hB2 hw2 hb3 hbb hbx c0 c1 c2 c3 c4 c5
  by_cases hr : r = 0
  case neg =>
    have er : (r != 0) = true := by simp [hr]
    have HR := hide ((test_right (how := c.h) (unhide HV) (unhide HU) hr).symm.trans (unhide HT))
    clear hr HV HT HU HLb hL T3 x0 x1 x2 y0 y1 y2
    go_wp2_with fail
    go_ret2
    exact ⟨ret_hold (unhide HR), hw3⟩
  subst hr
  have HR := hide ((test_both (how := c.h) (unhide HV) (unhide HU)).symm.trans (unhide HT))
  have F2 := fun W => holds_any c.h v u q n W hvs hus HR
  clear HV HT HU HLb hL HR
  obtain ⟨c0, c1, c2, c3, c4, c5⟩ := T3
  clear c0 c1 c2 c4 c5
  go_wp2_with fail
  refine (F2 _).mono ?_
  rintro e w4 ⟨rfl, hb4⟩
  have hw4 := bt hw3 hb4
  clear F2 hb4 hw3 c3 x0 x1 x2 y0 y1 y2
  go_wp2_with fail
  go_ret2
  exact ⟨rfl, hw4⟩
end Go.Proofs.Ytakhcifhfbiopaa.Sb

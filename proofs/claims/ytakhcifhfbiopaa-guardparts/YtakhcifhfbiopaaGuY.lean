/- The walk of constablelaw08.GuardParts: it answers true, whatever the way, the steps, the values. -/
import Derived.Test.YtakhcifhfbiopaaGuW
namespace Go.Proofs.Ytakhcifhfbiopaa.Sb
open Go.RowKit
open V
open Ex (RowO LiesO flatO liesO_none)

theorem way_of (kd : Int) : ∃ k : Int, wrap64 (1 + wrap64 ((IntKind.u64.wrap kd).tmod 4)) = k ∧ wayB k = true := by
  refine ⟨_, rfl, ?_⟩
  have h0 : 0 ≤ IntKind.u64.wrap kd := by simp [IntKind.wrap, IntKind.bits, IntKind.signed]; omega
  generalize IntKind.u64.wrap kd = m at h0
  rw [Int.tmod_eq_emod_of_nonneg h0]
  have e1 : wrap64 (m % 4) = m % 4 := by simp [wrap64]; omega
  rw [e1]
  have e2 : wrap64 (1 + m % 4) = 1 + m % 4 := by simp [wrap64]; omega
  rw [e2]
  exact decide_eq_true (by omega)
theorem guard_of {k : Int} {x y : List Oo} (h : wayB k = true) (hx : exprB x = true) (hy : exprB y = true) : guardB 3 ⟨#[]⟩ 0 k x y = true :=
  guard_iff.2 ⟨rfl, rfl, rfl, h, hx, hy⟩
theorem binds_x (a : Option Addr) (len cap : Nat) (xs : List Bb) (q : Bool) (w : World) (hA : Lies w a len cap xs) (hL : ∀ x ∈ xs, Lt x) (H : Hid (listB xs = q)) :
    Calls Try.prog 16 #[.slice a len cap] w fun e w' => e = .returned (.bool q) ∧ Below w.heap.size w w' := by
  have := refBinds_any a len cap xs w hA.row hA.le hA.ge hL
  rw [unhide H] at this
  exact this

set_option maxHeartbeats 40000000 in
set_option maxRecDepth 100000 in
theorem parts_law (kd : Int) (a1 : Option Addr) (l1 c1 : Nat) (xs : List Oo) (a2 : Option Addr) (l2 c2 : Nat) (ys : List Oo) (am : Option Addr) (lm cm : Nat) (bs : List Bb) (w : World) (hx : LiesO w a1 l1 c1 xs) (hy : LiesO w a2 l2 c2 ys) (hz : Lies w am lm cm bs) :
    Calls Try.prog 5 #[.int .i64 kd, .slice a1 l1 c1, .slice a2 l2 c2, .slice am lm cm] w fun e w' => e = .returned (.bool true) ∧ Below w.heap.size w w' := by
  have hm1 := oheavy_any a1 l1 c1 xs w hx.row hx.le hx.ge
  go_enter Try.func5, Try.ntmps5
  go_wp2_with fail
  refine hm1.mono ?_
  rintro e w1 ⟨rfl | ⟨rfl, h40, hLx⟩, hb1⟩
  · clear hm1
    go_wp2_with fail
    go_ret
    exact ⟨rfl, hb1⟩
  have hy1 := hy.on hb1
  have hm2 := oheavy_any a2 l2 c2 ys w1 hy1.row hy1.le hy1.ge
  clear hm1 hy1
  go_wp2_with fail
  refine hm2.mono ?_
  rintro e w2 ⟨rfl | ⟨rfl, h41, hLy⟩, hb2⟩
  · have hw2 := bt hb1 hb2
    clear hm2
    go_wp2_with fail
    go_ret
    exact ⟨rfl, hw2⟩
  have hw2 := bt hb1 hb2
  have hz2 := hz.on hw2
  have hm3 := heavy_any am lm cm bs w2 hz2.row hz2.le hz2.ge
  clear hm2 hz2 hb1 hb2
  go_wp2_with fail
  refine hm3.mono ?_
  rintro e w3 ⟨rfl | ⟨rfl, h110, hLb⟩, hb3⟩
  · have hw3 := bt hw2 hb3
    clear hm3
    go_wp2_with fail
    go_ret
    exact ⟨rfl, hw3⟩
  have hw3 := bt hw2 hb3
  have HLx := hide hLx
  have HLy := hide hLy
  have HLb := hide hLb
  clear hm3 hw2 hb3 hLx hLy hLb
  obtain ⟨q, hq⟩ : ∃ q, exprB xs = q := ⟨_, rfl⟩
  have F := refExpr_x a1 l1 c1 xs q w3 (hx.on hw3) (unhide HLx) (hide hq)
  go_wp2_with fail
  refine F.mono ?_
  rintro e w4 ⟨rfl, hb4⟩
  have hw4 := bt hw3 hb4
  clear F hw3 hb4
  cases q with
  | false =>
    go_wp2_with fail
    go_ret
    exact ⟨rfl, hw4⟩
  | true =>
  have HX := hide hq
  clear hq
  obtain ⟨q, hq⟩ : ∃ q, exprB ys = q := ⟨_, rfl⟩
  have F := refExpr_x a2 l2 c2 ys q w4 (hy.on hw4) (unhide HLy) (hide hq)
  go_wp2_with fail
  refine F.mono ?_
  rintro e w5 ⟨rfl, hb5⟩
  have hw5 := bt hw4 hb5
  clear F hw4 hb5
  cases q with
  | false =>
    go_wp2_with fail
    go_ret
    exact ⟨rfl, hw5⟩
  | true =>
  have HY := hide hq
  clear hq
  obtain ⟨q, hq⟩ : ∃ q, listB bs = q := ⟨_, rfl⟩
  have F := binds_x am lm cm bs q w5 (hz.on hw5) (unhide HLb) (hide hq)
  go_wp2_with fail
  refine F.mono ?_
  rintro e w6 ⟨rfl, hb6⟩
  have hw6 := bt hw5 hb6
  clear F hw5 hb6
  cases q with
  | false =>
    go_wp2_with fail
    go_ret
    exact ⟨rfl, hw6⟩
  | true =>
  have HB := hide hq
  clear hq
  go_wp2_with fail
  obtain ⟨k, hk, hway⟩ := way_of kd
  rw [hk]
  have HK := hide hway
  clear hk hway
  have hx6 := hx.on hw6
  have hy6 := hy.on hw6
  have hz6 := hz.on hw6
  clear hx hy hz
  obtain ⟨v, r, hv⟩ : ∃ v r, evalR bs xs = (v, r) := ⟨_, _, rfl⟩
  have HV := hide hv
  have hvs := evalR_small (unhide HLb) (unhide HLx) hv
  clear hv
  refine (eval_any a1 l1 c1 xs am lm cm bs v r w6 hx6 (unhide HLx) (by omega) hz6 (unhide HLb) HV).mono ?_
  rintro e w7 ⟨rfl, hb7⟩
  have hbb := bt hb7 (below_new w7 (bxV v))
  have hx7 := hx6.on hbb
  have hy7 := hy6.on hbb
  have hz7 := hz6.on hbb
  have hw7 := bt hw6 hbb
  obtain ⟨x0, x1, x2⟩ := trip_of (heap_alloc_new w7 (bxV v))
  clear hx6 hy6 hz6 hw6 hb7 hbb
  obtain ⟨u, s, hu⟩ : ∃ u s, evalR bs ys = (u, s) := ⟨_, _, rfl⟩
  have HU := hide hu
  have hus := evalR_small (unhide HLb) (unhide HLy) hu
  clear hu
  have F := eval_any a2 l2 c2 ys am lm cm bs u s (w7.alloc (bxV v)) hy7 (unhide HLy) (by omega) hz7 (unhide HLb) HU
  go_wp2_with fail
  refine F.mono ?_
  rintro e w8 ⟨rfl, hb8⟩
  have hb8' := bt hb8 (below_new w8 (bxV u))
  have hbb := bt hb8' (below_new (w8.alloc (bxV u)) (bxC ⟨3, ⟨#[]⟩, none, 0, 0, [], k, a1, l1, c1, xs, a2, l2, c2, ys⟩))
  replace x0 := cell_on hbb x0
  replace x1 := cell_on hbb x1
  replace x2 := cell_on hbb x2
  obtain ⟨y0, y1, y2⟩ := trip_of (heap_alloc_new w8 (bxV u))
  have hnn := below_new (w8.alloc (bxV u)) (bxC ⟨3, ⟨#[]⟩, none, 0, 0, [], k, a1, l1, c1, xs, a2, l2, c2, ys⟩)
  replace y0 := cell_on hnn y0
  replace y1 := cell_on hnn y1
  replace y2 := cell_on hnn y2
  have TC := bc_of (heap_alloc_new (w8.alloc (bxV u)) (bxC ⟨3, ⟨#[]⟩, none, 0, 0, [], k, a1, l1, c1, xs, a2, l2, c2, ys⟩))
  have hC : Cd.In ⟨3, ⟨#[]⟩, none, 0, 0, [], k, a1, l1, c1, xs, a2, l2, c2, ys⟩ _ := ⟨lies_none _, hx7.on hbb, hy7.on hbb⟩
  have hz8 := hz7.on hbb
  have hw8 := bt hw7 hbb
  have hL : Cd.Light ⟨3, ⟨#[]⟩, none, 0, 0, [], k, a1, l1, c1, xs, a2, l2, c2, ys⟩ := ⟨show (0 : Nat) ≤ 200 by decide, show (0 : Nat) ≤ 20 by decide, h40, h41, (by intro x hx; cases hx), unhide HLx, unhide HLy⟩
  have hsz : (w8.alloc (bxV u)).heap.size = w8.heap.size + 1 := by simp
  obtain ⟨q, n, hg⟩ : ∃ q n, testR bs k xs ys = (q, n) := ⟨_, _, rfl⟩
  have HT := hide hg
  clear hg F hx7 hy7 hz7 hw7 hb8 hb8' hbb hnn
  have F := geval_any ⟨3, ⟨#[]⟩, none, 0, 0, [], k, a1, l1, c1, xs, a2, l2, c2, ys⟩ am lm cm bs q n _ hC hL hz8 (unhide HLb) (hide ((geval_yes (guard_of (unhide HK) (unhide HX) (unhide HY))).trans (unhide HT)))
  rw [hsz] at TC
  obtain ⟨c0, c1', c2', c3, c4, c5⟩ := TC
  simp only at c0 c1' c2' c3 c4 c5
  go_wp2_with fail
  refine F.mono ?_
  rintro e w9 ⟨rfl, hb9⟩
  have hw9 := bt hw8 hb9
  replace x0 := cell_on hb9 x0
  replace x1 := cell_on hb9 x1
  replace x2 := cell_on hb9 x2
  replace y0 := cell_on hb9 y0
  replace y1 := cell_on hb9 y1
  replace y2 := cell_on hb9 y2
  replace c0 := cell_on hb9 c0
  replace c1' := cell_on hb9 c1'
  replace c2' := cell_on hb9 c2'
  replace c3 := cell_on hb9 c3
  replace c4 := cell_on hb9 c4
  replace c5 := cell_on hb9 c5
  replace hC := hC.on hb9
  clear F hb9 hw8 hz8 hsz
  by_cases hr : r = 0
  case neg =>
    have er : (r != 0) = true := by simp [hr]
    cases (test_left (how := k) (y := ys) (unhide HV) hr).symm.trans (unhide HT)
    clear hr HV HT HLb hL x0 x1 x2 y0 y1 y2 c0 c1' c2' c3 c4 c5 hC HX HY HK HU HLx HLy
    go_wp2_with fail
    refine (wakes_any _).mono ?_
    rintro e wA ⟨rfl, hbA⟩
    have hwA := bt hw9 hbA
    clear hbA er
    go_wp2_with fail
    go_ret
    exact ⟨rfl, hwA⟩
  subst hr
  by_cases hr : s = 0
  case neg =>
    have er : (s != 0) = true := by simp [hr]
    cases (test_right (how := k) (unhide HV) (unhide HU) hr).symm.trans (unhide HT)
    clear hr HV HT HLb hL x0 x1 x2 y0 y1 y2 c0 c1' c2' c3 c4 c5 hC HX HY HK HU HLx HLy
    go_wp2_with fail
    refine (wakes_any _).mono ?_
    rintro e wA ⟨rfl, hbA⟩
    have hwA := bt hw9 hbA
    clear hbA er
    go_wp2_with fail
    go_ret
    exact ⟨rfl, hwA⟩
  subst hr
  have HR := hide ((test_both (how := k) (unhide HV) (unhide HU)).symm.trans (unhide HT))
  have F := holds_any k v u q n w9 hvs hus HR
  clear HV HT HU HR
  go_wp2_with fail
  refine F.mono ?_
  rintro e wA ⟨rfl, hbA⟩
  have hwA := bt hw9 hbA
  replace c0 := cell_on hbA c0
  replace c1' := cell_on hbA c1'
  replace c2' := cell_on hbA c2'
  replace c3 := cell_on hbA c3
  replace c4 := cell_on hbA c4
  replace c5 := cell_on hbA c5
  replace hC := hC.on hbA
  clear F hbA hw9 x0 x1 x2 y0 y1 y2
  have F := gcheck_any ⟨3, ⟨#[]⟩, none, 0, 0, [], k, a1, l1, c1, xs, a2, l2, c2, ys⟩ 0 wA hC hL (hide (chk_t (guard_of (unhide HK) (unhide HX) (unhide HY))))
  go_wp2_with fail
  refine F.mono ?_
  rintro e wB ⟨rfl, hbB⟩
  have hwB := bt hwA hbB
  clear F hbB hwA c0 c1' c2' c3 c4 c5 hC hL HX HY HK HLb HLx HLy HB
  go_wp2_with fail
  refine (wakes_any _).mono ?_
  rintro e wC ⟨rfl, hbC⟩
  have hwC := bt hwB hbC
  clear hbC
  go_wp2_with fail
  go_ret
  exact ⟨rfl, hwC⟩
end Go.Proofs.Ytakhcifhfbiopaa.Sb

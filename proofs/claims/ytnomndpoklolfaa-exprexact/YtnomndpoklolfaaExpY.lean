/- The walk of constablelaw07.ExprExact: it answers true, whatever the steps, the values, the place. -/
import Derived.Test.YtnomndpoklolfaaExpW
import Derived.Test.YtnomndpoklolfaaExpJ
import Derived.Test.YtnomndpoklolfaaExpL
import Derived.Test.YtnomndpoklolfaaExpT
import Derived.Test.YtnomndpoklolfaaExpX
namespace Go.Proofs.Ytnomndpoklolfaa.Sb
open Go.RowKit
open V
open Ex (RowO LiesO flatO liesO_own)

theorem varsO_len (xs : List Oo) : (varsO xs).length ≤ xs.length := by
  have := varsK_len xs xs.length
  rw [varsK_end (Nat.le_refl _)] at this
  exact this
theorem partR_no {l : List Oo} {e : Int} (h : exprB l = false) : partR l e = -1 := by
  unfold partR
  rw [if_neg (fun q => by rw [h] at q; exact absurd q.1 (by simp))]
theorem evalR_no {b : List Bb} {l : List Oo} {v : Vv} {r : Int} (h : exprB l = false ∨ listB b = false) (H : evalR b l = (v, r)) : v = zeroV ∧ r = 1 := by
  unfold evalR at H
  rw [if_neg (fun q => by rcases h with h | h; rw [h] at q; exact absurd q.1 (by simp); rw [h] at q; exact absurd q.2 (by simp))] at H
  simp only [Prod.mk.injEq] at H
  exact ⟨H.1.symm, H.2.symm⟩
theorem evalR_yes {b : List Bb} {l : List Oo} (h : exprB l = true) (k : listB b = true) : evalR b l = evalL b l := by
  unfold evalR
  rw [if_pos ⟨h, k⟩]

set_option maxHeartbeats 40000000 in
set_option maxRecDepth 100000 in
theorem exact_law (al : Option Addr) (ll cl : Nat) (xs : List Oo) (am : Option Addr) (lm cm : Nat) (bs : List Bb) (en : Int) (w : World) (hx : LiesO w al ll cl xs) (hy : Lies w am lm cm bs) :
    Calls Try.prog 3 #[.slice al ll cl, .slice am lm cm, .int .i64 en] w fun e w' => e = .returned (.bool true) ∧ Below w.heap.size w w' := by
  have hm1 := oheavy_any al ll cl xs w hx.row hx.le hx.ge
  go_enter Try.func3, Try.ntmps3
  go_wp2_with fail
  refine hm1.mono ?_
  rintro e w1 ⟨rfl | ⟨rfl, h40, hLx⟩, hb1⟩
  · clear hm1
    go_wp2_with fail
    go_ret
    exact ⟨rfl, hb1⟩
  have hy1 := hy.on hb1
  have hm2 := heavy_any am lm cm bs w1 hy1.row hy1.le hy1.ge
  clear hm1 hy1
  go_wp2_with fail
  refine hm2.mono ?_
  rintro e w2 ⟨rfl | ⟨rfl, h110, hLb⟩, hb2⟩
  · have hw2 := bt hb1 hb2
    clear hm2
    go_wp2_with fail
    go_ret
    exact ⟨rfl, hw2⟩
  have hw2 := bt hb1 hb2
  have HLx := hide hLx
  have HLb := hide hLb
  clear hm2 hb1 hb2 hLx hLb
  go_wp2_with fail
  refine (twinO_any al ll cl xs w2 (hx.on hw2) (by omega)).mono ?_
  rintro e w3 ⟨qi, ci, rfl, hI, hb3⟩
  have hI3 := liesO_own hI
  have hw3 := bt hw2 hb3
  clear hI hb3 hw2
  go_wp2_with fail
  refine (twin_any am lm cm bs w3 (hy.on hw3) (by omega)).mono ?_
  rintro e w4 ⟨qk, nk, ck, rfl, hK, hb4⟩
  have hI4 := hI3.on hb4
  have hw4 := bt hw3 hb4
  have hnk : nk ≤ 110 := by rw [hK.len, ← hy.len]; exact h110
  clear hI3 hb4 hw3
  obtain ⟨⟨v, r⟩, hv⟩ : ∃ r, evalR bs xs = r := ⟨_, rfl⟩
  have HV := hide hv
  clear hv
  go_wp2_with fail
  refine (eval_any qi ll ci xs qk nk ck bs v r w4 hI4 (unhide HLx) (by omega) hK (unhide HLb) HV).mono ?_
  rintro e w5 ⟨rfl, hb5⟩
  have hbx : Below w5.heap.size w5 (w5.alloc (bxV v)) := (Below.refl _ _).alloc (Nat.le_refl _) _
  have hw5 := bt (bt hw4 hb5) hbx
  have hI5 := (hI4.on hb5).on hbx
  have hK5 := (hK.on hb5).on hbx
  obtain ⟨x0, x1, x2⟩ := trip_of (heap_alloc_new w5 (bxV v))
  clear hI4 hK hb5 hbx hw4
  go_wp2_with fail
  --TAIL
  generalize w5.alloc (bxV v) = W5 at hw5 hI5 hK5 x0 x1 x2
  generalize w5.heap.size = vb at x0 x1 x2
  refine (ovars_any qi ll ci xs W5 (unhide HLx) hI5.row hI5.le hI5.ge (by omega)).mono ?_
  rintro e w6 ⟨qv, mv, cv, rfl, hmv, hRv, hb6⟩
  have hw6 := bt hw5 hb6
  have hI6 := hI5.on hb6
  have hK6 := hK5.on hb6
  replace x0 := cell_on hb6 x0
  replace x1 := cell_on hb6 x1
  replace x2 := cell_on hb6 x2
  clear hI5 hK5 hw5 hb6
  have HMV := hide hmv
  clear hmv
  go_wp2_with fail
  have hx6 := hx.on hw6
  refine (refVars_any al ll cl xs w6 hx6.row hx6.le hx6.ge (by omega)).mono ?_
  rintro e w7 ⟨qu, mu, cu, rfl, hmu, hRu, hb7⟩
  have hw7 := bt hw6 hb7
  have hI7 := hI6.on hb7
  have hK7 := hK6.on hb7
  have hRv7 := hRv.on hb7
  replace x0 := cell_on hb7 x0
  replace x1 := cell_on hb7 x1
  replace x2 := cell_on hb7 x2
  clear hI6 hK6 hw6 hx6 hRv hb7
  obtain rfl : mu = mv := hmu.trans (unhide HMV).symm
  clear hmu
  go_wp2_with fail
  have hml : mu ≤ 40 := by have := varsO_len xs; have := hx.len; have := unhide HMV; omega
  refine (keepTexts_same qv qu mu cv cu (varsO xs) w7 hRv7 hRu (Nat.le_of_eq (unhide HMV)) (Nat.le_of_eq (unhide HMV).symm) (by omega)).mono ?_
  rintro e w8 ⟨rfl, hb8⟩
  have hw8 := bt hw7 hb8
  have hI8 := hI7.on hb8
  have hK8 := hK7.on hb8
  replace x0 := cell_on hb8 x0
  replace x1 := cell_on hb8 x1
  replace x2 := cell_on hb8 x2
  clear hI7 hK7 hw7 hRv7 hRu hb8 HMV hml
  have hx8 := hx.on hw8
  have hk8 := keepOps_any qi al ll ll ci cl xs xs w8 hI8.row hx8.row hI8.le hI8.ge hx8.le hx8.ge (by omega)
  rw [decide_eq_true rfl] at hk8
  go_wp2_with fail
  refine hk8.mono ?_
  rintro e w9 ⟨rfl, hb9⟩
  have hw9 := bt hw8 hb9
  have hI9 := hI8.on hb9
  have hK9 := hK8.on hb9
  replace x0 := cell_on hb9 x0
  replace x1 := cell_on hb9 x1
  replace x2 := cell_on hb9 x2
  clear hI8 hK8 hw8 hx8 hk8 hb9
  have hy9 := hy.on hw9
  have hk9 := keepBinds_any qk am nk lm ck cm bs bs w9 hK9.row hy9.row hK9.le hK9.ge hy9.le hy9.ge (by omega)
  rw [decide_eq_true rfl] at hk9
  go_wp2_with fail
  refine hk9.mono ?_
  rintro e wa ⟨rfl, hba⟩
  have hwa := bt hw9 hba
  have hIa := hI9.on hba
  replace x0 := cell_on hba x0
  replace x1 := cell_on hba x1
  replace x2 := cell_on hba x2
  clear hI9 hK9 hw9 hy9 hk9 hba
  have hxa := hx.on hwa
  obtain ⟨q, hq⟩ : ∃ q, exprB xs = q := ⟨_, rfl⟩
  have F := refExpr_any al ll cl xs wa hxa.row hxa.le hxa.ge (unhide HLx)
  rw [hq] at F
  go_wp2_with fail
  refine F.mono ?_
  rintro e wb ⟨rfl, hbb⟩
  have hwb := bt hwa hbb
  have hIb := hIa.on hbb
  replace x0 := cell_on hbb x0
  replace x1 := cell_on hbb x1
  replace x2 := cell_on hbb x2
  clear hIa hwa hxa F hbb
  have HQ := hide hq
  clear hq
  cases q with
  | false =>
    go_wp2_with fail
    refine (echeck_k qi ll ci xs 1 wb hIb (unhide HLx) (by omega) (hide (chk_f (unhide HQ)))).mono ?_
    rintro e wc ⟨rfl, hbc, -⟩
    have hwc := bt hwb hbc
    have hIc := hIb.on hbc
    replace x0 := cell_on hbc x0
    replace x1 := cell_on hbc x1
    replace x2 := cell_on hbc x2
    clear hIb hwb hbc
    go_wp2_with fail
    refine (echeck_k qi ll ci xs 1 wc hIc (unhide HLx) (by omega) (hide (chk_f (unhide HQ)))).mono ?_
    rintro e wd ⟨rfl, hbd, -⟩
    have hwd := bt hwc hbd
    have hId := hIc.on hbd
    replace x0 := cell_on hbd x0
    replace x1 := cell_on hbd x1
    replace x2 := cell_on hbd x2
    clear hIc hwc hbd
    go_wp2_with fail
    refine (part_any qi ll ci xs en (-1) wd hId (unhide HLx) (by omega) (hide (partR_no (unhide HQ)))).mono ?_
    rintro e we ⟨rfl, hbe⟩
    have hwe := bt hwd hbe
    replace x0 := cell_on hbe x0
    replace x1 := cell_on hbe x1
    replace x2 := cell_on hbe x2
    clear hId hwd hbe
    obtain ⟨rfl, rfl⟩ : v = zeroV ∧ r = 1 := evalR_no (Or.inl (unhide HQ)) (unhide HV)
    have hE := eqV0 zeroV zeroV
    rw [decide_eq_true rfl] at hE
    have z0 : zeroV = (0, 0, ⟨#[]⟩) := rfl
    rw [z0] at x0 x1 x2 hE
    go_wp2_with fail
    refine (wakes_any we).mono ?_
    rintro e wf ⟨rfl, hbf⟩
    have hwf := bt hwe hbf
    clear hE x0 x1 x2 hwe hbf
    go_wp2_with fail
    go_ret
    exact ⟨rfl, hwf⟩
  | true =>
    go_wp2_with fail
    refine (echeck_k qi ll ci xs 0 wb hIb (unhide HLx) (by omega) (hide (chk_t (unhide HQ)))).mono ?_
    rintro e wc ⟨rfl, hbc, -⟩
    have hwc := bt hwb hbc
    have hIc := hIb.on hbc
    replace x0 := cell_on hbc x0
    replace x1 := cell_on hbc x1
    replace x2 := cell_on hbc x2
    clear hIb hwb hbc
    by_cases h0 : en < 0
    · have d0 : decide ((0 : Int) ≤ en) = false := decide_eq_false (by omega)
      have HP := hide (partR_out (l := xs) (e := en) (by omega))
      clear h0
      go_wp2_with fail
      refine (part_any qi ll ci xs en (-1) wc hIc (unhide HLx) (by omega) HP).mono ?_
      rintro e we ⟨rfl, hbe⟩
      have hwe := bt hwc hbe
      replace x0 := cell_on hbe x0
      replace x1 := cell_on hbe x1
      replace x2 := cell_on hbe x2
      clear hIc hwc hbe d0
      have hye := hy.on hwe
      obtain ⟨q, hq⟩ : ∃ q, listB bs = q := ⟨_, rfl⟩
      have F := refBinds_any am lm cm bs we hye.row hye.le hye.ge (unhide HLb)
      rw [hq] at F
      go_wp2_with fail
      refine F.mono ?_
      rintro e wf ⟨rfl, hbf⟩
      have hwf := bt hwe hbf
      replace x0 := cell_on hbf x0
      replace x1 := cell_on hbf x1
      replace x2 := cell_on hbf x2
      clear hwe hbf hye F
      have HB := hide hq
      clear hq
      cases q with
      | false =>
        obtain ⟨rfl, rfl⟩ : v = zeroV ∧ r = 1 := evalR_no (Or.inr (unhide HB)) (unhide HV)
        have hE := eqV0 zeroV zeroV
        rw [decide_eq_true rfl] at hE
        have z0 : zeroV = (0, 0, ⟨#[]⟩) := rfl
        rw [z0] at x0 x1 x2 hE
        go_wp2_with fail
        refine (wakes_any wf).mono ?_
        rintro e wg ⟨rfl, hbg⟩
        have hwg := bt hwf hbg
        clear hE x0 x1 x2 hwf hbg
        go_wp2_with fail
        go_ret
        exact ⟨rfl, hwg⟩
      | true =>
        have HE := hide ((evalR_yes (unhide HQ) (unhide HB)).symm.trans (unhide HV))
        go_wp2_with fail
        refine (refEval_any al ll cl xs am lm cm bs v r wf (hx.on hwf) (unhide HLx) (hy.on hwf) (unhide HLb) (by omega) HQ HE).mono ?_
        rintro e wg ⟨rfl, hbg⟩
        have hbx : Below wg.heap.size wg (wg.alloc (bxV v)) := (Below.refl _ _).alloc (Nat.le_refl _) _
        have hwg := bt (bt hwf hbg) hbx
        replace x0 := cell_on hbx (cell_on hbg x0)
        replace x1 := cell_on hbx (cell_on hbg x1)
        replace x2 := cell_on hbx (cell_on hbg x2)
        obtain ⟨y0, y1, y2⟩ := trip_of (heap_alloc_new wg (bxV v))
        have hE := eqV0 v v
        rw [decide_eq_true rfl] at hE
        have hbr : (r == r) = true := beq_self_eq_true r
        clear hbx hbg hwf
        go_wp2_with fail
        refine (wakes_any _).mono ?_
        rintro e wh ⟨rfl, hbh⟩
        have hwh := bt hwg hbh
        clear hE x0 x1 x2 y0 y1 y2 hwg hbh hbr
        go_wp2_with fail
        go_ret
        exact ⟨rfl, hwh⟩
    have d0 : decide ((0 : Int) ≤ en) = true := decide_eq_true (by omega)
    by_cases h1 : en < (ll : Int)
    · obtain ⟨k, rfl⟩ := Int.eq_ofNat_of_zero_le (show 0 ≤ en by omega)
      have d1 : decide ((k : Int) < (ll : Int)) = true := decide_eq_true h1
      have hkl : k < ll := by omega
      have hkx : k < xs.length := by have := hx.len; omega
      have hxc := hx.on hwc
      obtain ⟨b, o, ha, -⟩ := hxc.row.up hkx
      subst ha
      clear h0 h1
      go_wp2_with fail
      refine (refPart_any b o ll cl xs k wc hxc.row hxc.le hxc.ge HQ hkl).mono ?_
      rintro e wd ⟨rfl, rfl⟩
      have HP := hide (partR_in (unhide HQ) hkx)
      clear hxc d0 d1
      generalize partL xs k = pl at HP
      have hbp : (pl == pl) = true := beq_self_eq_true pl
      go_wp2_with fail
      refine (part_any qi ll ci xs k pl wd hIc (unhide HLx) (by omega) HP).mono ?_
      rintro e we ⟨rfl, hbe⟩
      have hwe := bt hwc hbe
      replace x0 := cell_on hbe x0
      replace x1 := cell_on hbe x1
      replace x2 := cell_on hbe x2
      clear hIc hwc hbe
      have hye := hy.on hwe
      obtain ⟨q, hq⟩ : ∃ q, listB bs = q := ⟨_, rfl⟩
      have F := refBinds_any am lm cm bs we hye.row hye.le hye.ge (unhide HLb)
      rw [hq] at F
      go_wp2_with fail
      refine F.mono ?_
      rintro e wf ⟨rfl, hbf⟩
      have hwf := bt hwe hbf
      replace x0 := cell_on hbf x0
      replace x1 := cell_on hbf x1
      replace x2 := cell_on hbf x2
      clear hwe hbf hye F
      have HB := hide hq
      clear hq
      cases q with
      | false =>
        obtain ⟨rfl, rfl⟩ : v = zeroV ∧ r = 1 := evalR_no (Or.inr (unhide HB)) (unhide HV)
        have hE := eqV0 zeroV zeroV
        rw [decide_eq_true rfl] at hE
        have z0 : zeroV = (0, 0, ⟨#[]⟩) := rfl
        rw [z0] at x0 x1 x2 hE
        go_wp2_with fail
        refine (wakes_any wf).mono ?_
        rintro e wg ⟨rfl, hbg⟩
        have hwg := bt hwf hbg
        clear hE x0 x1 x2 hwf hbg
        go_wp2_with fail
        go_ret
        exact ⟨rfl, hwg⟩
      | true =>
        have HE := hide ((evalR_yes (unhide HQ) (unhide HB)).symm.trans (unhide HV))
        go_wp2_with fail
        refine (refEval_any (some ⟨b, o, none⟩) ll cl xs am lm cm bs v r wf (hx.on hwf) (unhide HLx) (hy.on hwf) (unhide HLb) (by omega) HQ HE).mono ?_
        rintro e wg ⟨rfl, hbg⟩
        have hbx : Below wg.heap.size wg (wg.alloc (bxV v)) := (Below.refl _ _).alloc (Nat.le_refl _) _
        have hwg := bt (bt hwf hbg) hbx
        replace x0 := cell_on hbx (cell_on hbg x0)
        replace x1 := cell_on hbx (cell_on hbg x1)
        replace x2 := cell_on hbx (cell_on hbg x2)
        obtain ⟨y0, y1, y2⟩ := trip_of (heap_alloc_new wg (bxV v))
        have hE := eqV0 v v
        rw [decide_eq_true rfl] at hE
        have hbr : (r == r) = true := beq_self_eq_true r
        clear hbx hbg hwf
        go_wp2_with fail
        refine (wakes_any _).mono ?_
        rintro e wh ⟨rfl, hbh⟩
        have hwh := bt hwg hbh
        clear hE x0 x1 x2 y0 y1 y2 hwg hbh hbr
        go_wp2_with fail
        go_ret
        exact ⟨rfl, hwh⟩
    · have d1 : decide (en < (ll : Int)) = false := decide_eq_false h1
      have HP := hide (partR_out (l := xs) (e := en) (by have := hx.len; omega))
      clear h0 h1
      go_wp2_with fail
      refine (part_any qi ll ci xs en (-1) wc hIc (unhide HLx) (by omega) HP).mono ?_
      rintro e we ⟨rfl, hbe⟩
      have hwe := bt hwc hbe
      replace x0 := cell_on hbe x0
      replace x1 := cell_on hbe x1
      replace x2 := cell_on hbe x2
      clear hIc hwc hbe d0 d1
      have hye := hy.on hwe
      obtain ⟨q, hq⟩ : ∃ q, listB bs = q := ⟨_, rfl⟩
      have F := refBinds_any am lm cm bs we hye.row hye.le hye.ge (unhide HLb)
      rw [hq] at F
      go_wp2_with fail
      refine F.mono ?_
      rintro e wf ⟨rfl, hbf⟩
      have hwf := bt hwe hbf
      replace x0 := cell_on hbf x0
      replace x1 := cell_on hbf x1
      replace x2 := cell_on hbf x2
      clear hwe hbf hye F
      have HB := hide hq
      clear hq
      cases q with
      | false =>
        obtain ⟨rfl, rfl⟩ : v = zeroV ∧ r = 1 := evalR_no (Or.inr (unhide HB)) (unhide HV)
        have hE := eqV0 zeroV zeroV
        rw [decide_eq_true rfl] at hE
        have z0 : zeroV = (0, 0, ⟨#[]⟩) := rfl
        rw [z0] at x0 x1 x2 hE
        go_wp2_with fail
        refine (wakes_any wf).mono ?_
        rintro e wg ⟨rfl, hbg⟩
        have hwg := bt hwf hbg
        clear hE x0 x1 x2 hwf hbg
        go_wp2_with fail
        go_ret
        exact ⟨rfl, hwg⟩
      | true =>
        have HE := hide ((evalR_yes (unhide HQ) (unhide HB)).symm.trans (unhide HV))
        go_wp2_with fail
        refine (refEval_any al ll cl xs am lm cm bs v r wf (hx.on hwf) (unhide HLx) (hy.on hwf) (unhide HLb) (by omega) HQ HE).mono ?_
        rintro e wg ⟨rfl, hbg⟩
        have hbx : Below wg.heap.size wg (wg.alloc (bxV v)) := (Below.refl _ _).alloc (Nat.le_refl _) _
        have hwg := bt (bt hwf hbg) hbx
        replace x0 := cell_on hbx (cell_on hbg x0)
        replace x1 := cell_on hbx (cell_on hbg x1)
        replace x2 := cell_on hbx (cell_on hbg x2)
        obtain ⟨y0, y1, y2⟩ := trip_of (heap_alloc_new wg (bxV v))
        have hE := eqV0 v v
        rw [decide_eq_true rfl] at hE
        have hbr : (r == r) = true := beq_self_eq_true r
        clear hbx hbg hwf
        go_wp2_with fail
        refine (wakes_any _).mono ?_
        rintro e wh ⟨rfl, hbh⟩
        have hwh := bt hwg hbh
        clear hE x0 x1 x2 y0 y1 y2 hwg hbh hbr
        go_wp2_with fail
        go_ret
        exact ⟨rfl, hwh⟩
end Go.Proofs.Ytnomndpoklolfaa.Sb

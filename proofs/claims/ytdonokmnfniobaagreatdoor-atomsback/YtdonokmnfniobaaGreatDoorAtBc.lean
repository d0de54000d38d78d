/- The walk of constablelaw10.AtomsBack, where the first atom is wrong, the second right. -/
import Derived.Test.YtdonokmnfniobaaGreatDoorAtBk
namespace Go.Proofs.YtdonokmnfniobaaGreatDoor.Sb
open Go.RowKit
open V
open Ex (RowO LiesO flatO)

set_option maxHeartbeats 16000000 in
set_option maxRecDepth 100000 in
theorem back_c (na : ByteArray) (aa : Option Addr) (la ca : Nat) (ta : List Bb) (nb : ByteArray) (ab : Option Addr) (lb cb : Nat) (tb : List Bb) (xa : Option Addr) (xl xc : Nat) (xs : List Oo) (ya : Option Addr) (yl yc : Nat) (ys : List Oo) (h : Int) (w : World) (he : Env w) (hA : Lies w aa la ca ta) (hB : Lies w ab lb cb tb) (hX : LiesO w xa xl xc xs) (hY : LiesO w ya yl yc ys) (HRA : Hid (rightA na ta = false)) (HRB : Hid (rightA nb tb = true)) :
    Calls Tryz.prog 3 #[.agg #[.string na, .slice aa la ca], .agg #[.string nb, .slice ab lb cb], .slice xa xl xc, .slice ya yl yc, .int .i64 h] w fun e w' => e = .returned (.bool true) ∧ Below w.heap.size w w' := by
  obtain ⟨i0, i1⟩ := idx6 h
  have hT := behV_at (wrap64 ((IntKind.u64.wrap h).tmod 6)).toNat (by omega)
  obtain ⟨z, hz⟩ : ∃ z : ByteArray, z = ⟨(glue (behindPs (wrap64 ((IntKind.u64.wrap h).tmod 6)).toNat)).toArray⟩ := ⟨_, rfl⟩
  rw [← hz] at hT
  obtain ⟨K, hzl⟩ : ∃ K, z.data.toList = glue (behindPs K) := ⟨_, by rw [hz]⟩
  have HZL := hide hzl
  have hz5 : z.size ≤ 5 := by rw [← size_list, hzl]; exact behind_len K
  simp only [behV] at hT
  clear hz hzl
  obtain ⟨A0, B0, hbw⟩ := boxes2 w na (.slice aa la ca) nb (.slice ab lb cb)
  obtain ⟨a0, a1⟩ : _ ∧ _ := ⟨A0.c0, A0.c1⟩
  obtain ⟨b0, b1⟩ : _ ∧ _ := ⟨B0.c0, B0.c1⟩
  have F1 := hide (aheavy_any na aa la ca ta _ (hA.on hbw))
  go_enter Tryz.func3, Tryz.ntmps3
  go_wp2_with fail
  refine (unhide F1).mono ?_
  rintro e w1 ⟨rfl | ⟨rfl, hn1, hl1, ht1⟩, hb1⟩
  · go_wp2_with fail
    go_ret
    exact ⟨rfl, bt hbw hb1⟩
  have A1 := A0.on hb1
  have B1 := B0.on hb1
  have hbw1 := bt hbw hb1
  clear a0 a1 b0 b1 A0 B0 hbw hb1 F1
  obtain ⟨a0, a1⟩ : _ ∧ _ := ⟨A1.c0, A1.c1⟩
  obtain ⟨b0, b1⟩ : _ ∧ _ := ⟨B1.c0, B1.c1⟩
  have F2 := hide (aheavy_any nb ab lb cb tb w1 (hB.on hbw1))
  have ht1' := hide ht1
  clear ht1
  go_wp2_with fail
  refine (unhide F2).mono ?_
  rintro e w2 ⟨rfl | ⟨rfl, hn2, hl2, ht2⟩, hb2⟩
  · go_wp2_with fail
    go_ret
    exact ⟨rfl, bt hbw1 hb2⟩
  have A2 := A1.on hb2
  have B2 := B1.on hb2
  have hbw2 := bt hbw1 hb2
  have ht2' := hide ht2
  clear a0 a1 b0 b1 A1 B1 hbw1 hb2 F2 ht2
  have F3 := hide (oheavy_any xa xl xc xs w2 (hX.on hbw2).row (hX.on hbw2).le (hX.on hbw2).ge)
  go_wp2_with fail
  refine (unhide F3).mono ?_
  rintro e w3 ⟨rfl | ⟨rfl, hl3, ht3⟩, hb3⟩
  · go_wp2_with fail
    go_ret
    exact ⟨rfl, bt hbw2 hb3⟩
  have A3 := A2.on hb3
  have B3 := B2.on hb3
  have hbw3 := bt hbw2 hb3
  have ht3' := hide ht3
  clear A2 B2 hbw2 hb3 F3 ht3
  have F4 := hide (oheavy_any ya yl yc ys w3 (hY.on hbw3).row (hY.on hbw3).le (hY.on hbw3).ge)
  go_wp2_with fail
  refine (unhide F4).mono ?_
  rintro e w4 ⟨rfl | ⟨rfl, hl4, ht4⟩, hb4⟩
  · go_wp2_with fail
    go_ret
    exact ⟨rfl, bt hbw3 hb4⟩
  have hbx : Below w4.heap.size w4 (w4.alloc (.cells behV.toArray 9)) := (Below.refl _ _).alloc (Nat.le_refl _) _
  have A4 := (A3.on hb4).on hbx
  have B4 := (B3.on hb4).on hbx
  have hbw4 := bt (bt hbw3 hb4) hbx
  have ht4' := hide ht4
  have hbeh := hide (heap_alloc_new w4 (.cells behV.toArray 9))
  clear A3 B3 hbw3 hb4 F4 ht4 hbx
  simp only [behV] at A4 B4 hbw4
  clear hbeh
  obtain ⟨a0, a1⟩ : _ ∧ _ := ⟨A4.c0, A4.c1⟩
  obtain ⟨b0, b1⟩ : _ ∧ _ := ⟨B4.c0, B4.c1⟩
  go_wp2_with fail
  clear hT i0 i1 a0 a1 b0 b1
  generalize w4.alloc (.cells #[.string ⟨#[]⟩, .string ⟨#[32, 46]⟩, .string ⟨#[32, 41]⟩, .string ⟨#[32, 44]⟩, .string ⟨#[32, 93]⟩, .string ⟨#[32, 61, 62, 32, 112]⟩] 9) = W4 at A4 B4 hbw4 ⊢
  obtain ⟨sB, hsB⟩ : ∃ s : ByteArray, (⟨(textA (nb.data.toList, tb)).toArray⟩ : ByteArray) = s := ⟨_, rfl⟩
  have HSB := hide hsB
  have hzsB : sB.size ≤ 700 := by rw [← hsB, size_of]; exact textA_len (a := (nb.data.toList, tb)) (unhide HRB)
  clear hsB
  refine (text_wrong na aa la ca ta _ (hA.on hbw4) hn1 (unhide ht1') (by omega) HRA).mono ?_
  rintro e w5 ⟨rfl, hb5⟩
  have A5 := A4.on hb5
  have B5 := B4.on hb5
  have hbw5 := bt hbw4 hb5
  clear A4 B4 hbw4 hb5
  obtain ⟨a0, a1⟩ : _ ∧ _ := ⟨A5.c0, A5.c1⟩
  obtain ⟨b0, b1⟩ : _ ∧ _ := ⟨B5.c0, B5.c1⟩
  go_wp2_with fail
  refine (text_right nb ab lb cb tb sB _ (he.on hbw5) (hB.on hbw5) HRB HSB).mono ?_
  rintro e w6 ⟨rfl, hb6⟩
  have A6 := A5.on hb6
  have B6 := B5.on hb6
  have hbw6 := bt hbw5 hb6
  clear A5 B5 hbw5 hb6
  clear a0 a1 b0 b1
  clear A6 B6
  obtain ⟨rx, hrx⟩ : ∃ r, exprB xs = r := ⟨_, rfl⟩
  obtain ⟨ry, hry⟩ : ∃ r, exprB ys = r := ⟨_, rfl⟩
  have HRX := hide hrx
  have HRY := hide hry
  cases rx with
  | false =>
    cases ry with
    | false =>
      clear hrx hry
      go_wp2_with fail
      refine (expr_wrong' xa xl xc xs _ (hX.on hbw6) (unhide ht3') (by omega) HRX).mono ?_
      rintro e w20 ⟨rfl, hb20⟩
      have hbw20 := bt hbw6 hb20
      clear hbw6 hb20
      go_wp2_with fail
      refine (expr_wrong' ya yl yc ys _ (hY.on hbw20) (unhide ht4') (by omega) HRY).mono ?_
      rintro e w21 ⟨rfl, hb21⟩
      have hbw21 := bt hbw20 hb21
      clear hbw20 hb21
      go_wp2_with fail
      refine (wakes_any _ (he.on hbw21)).mono ?_
      rintro e w22 ⟨rfl, hb22⟩
      go_wp2_with fail
      go_ret
      exact ⟨rfl, bt hbw21 hb22⟩
    | true =>
      obtain ⟨sY, hsY⟩ : ∃ s : ByteArray, (⟨(textX ys).toArray⟩ : ByteArray) = s := ⟨_, rfl⟩
      have HSY := hide hsY
      clear hrx hry hsY
      go_wp2_with fail
      refine (expr_wrong' xa xl xc xs _ (hX.on hbw6) (unhide ht3') (by omega) HRX).mono ?_
      rintro e w20 ⟨rfl, hb20⟩
      have hbw20 := bt hbw6 hb20
      clear hbw6 hb20
      go_wp2_with fail
      refine (expr_right ya yl yc ys sY _ (he.on hbw20) (hY.on hbw20) (unhide ht4') HRY HSY).mono ?_
      rintro e w21 ⟨rfl, hb21⟩
      have hbw21 := bt hbw20 hb21
      clear hbw20 hb21
      go_wp2_with fail
      refine (wakes_any _ (he.on hbw21)).mono ?_
      rintro e w22 ⟨rfl, hb22⟩
      go_wp2_with fail
      go_ret
      exact ⟨rfl, bt hbw21 hb22⟩
  | true =>
    cases ry with
    | false =>
      obtain ⟨sX, hsX⟩ : ∃ s : ByteArray, (⟨(textX xs).toArray⟩ : ByteArray) = s := ⟨_, rfl⟩
      have HSX := hide hsX
      have hzX : sX.size ≤ 1900 := by rw [← hsX, size_of]; exact textX_len hrx
      obtain ⟨ux, hux, huxr⟩ := readE_behind hrx K
      obtain ⟨SX2, hSX2⟩ : ∃ s : ByteArray, s = sX ++ z := ⟨_, rfl⟩
      have HSX2 := hide hSX2
      have HUX : Hid (lexA rightK SX2.data.toList 0 = .ok ux) := hide (by rw [hSX2, cat_list, unhide HZL, ← hsX]; simpa using hux)
      have hzX2 : SX2.size ≤ 19999 := by rw [hSX2, cat_size]; omega
      have HUXR := hide huxr
      clear hrx hry hsX hux huxr hSX2
      go_wp2_with fail
      refine (expr_right xa xl xc xs sX _ (he.on hbw6) (hX.on hbw6) (unhide ht3') HRX HSX).mono ?_
      rintro e w20 ⟨rfl, hb20⟩
      have hbw20 := bt hbw6 hb20
      clear hbw6 hb20
      go_wp2_with fail
      refine (expr_wrong' ya yl yc ys _ (hY.on hbw20) (unhide ht4') (by omega) HRY).mono ?_
      rintro e w21 ⟨rfl, hb21⟩
      have hbw21 := bt hbw20 hb21
      clear hbw20 hb21
      go_wp2_with fail
      rw [← unhide HSX2]
      refine (lex_lies SX2 ux _ hzX2 (he.on hbw21) HUX).mono ?_
      rintro e w22 ⟨⟨lx, cx, xs3, rfl, hl22, HK22, HZ22, hu22⟩, hb22⟩
      have hbx : Below w22.heap.size w22 (w22.alloc (objPos 0 0)) := (Below.refl _ _).alloc (Nat.le_refl _) _
      have hl22' := hl22.on hbx
      have hbw22 := bt (bt hbw21 hb22) hbx
      have HR22 : Hid (readE (xs3.map ktm) 0 = .ok (xs, (exprK xs).length)) := hide (by rw [unhide HK22]; exact unhide HUXR)
      clear hbw21 hb22 hbx hl22 HK22 HUXR HUX HSX2
      go_wp2_with fail
      generalize w22.alloc (objPos 0 0) = W22 at hl22' hbw22 ⊢
      refine (rexpr_ok lx ux.length cx xs3 0 _ _ (he.on hbw22) hl22' HZ22 hu22 (Nat.zero_le _) HR22).mono ?_
      rintro e w23 ⟨⟨za, zl, zc, rfl, hzz⟩, hb23⟩
      simp only at hzz ⊢
      have hbw23 := bt hbw22 hb23
      have hX23 := hX.on hbw23
      have F1 := keepOps_any za xa zl xl zc xc xs xs w23 hzz.row hX23.row hzz.le hzz.ge hX23.le hX23.ge (by have := hzz.len; have := hX.len; omega)
      rw [decide_eq_true rfl] at F1
      have F1H := hide F1
      clear F1 hX23 hzz hbw22 hb23 hl22' HR22 HZ22 hu22
      go_wp2_with fail
      refine (unhide F1H).mono ?_
      rintro e w24 ⟨rfl, hb24⟩
      have hbw24 := bt hbw23 hb24
      clear hbw23 hb24 F1H
      go_wp2_with fail
      refine (wakes_any _ (he.on hbw24)).mono ?_
      rintro e w26 ⟨rfl, hb26⟩
      go_wp2_with fail
      go_ret
      exact ⟨rfl, bt hbw24 hb26⟩
    | true =>
      obtain ⟨sX, hsX⟩ : ∃ s : ByteArray, (⟨(textX xs).toArray⟩ : ByteArray) = s := ⟨_, rfl⟩
      have HSX := hide hsX
      have hzX : sX.size ≤ 1900 := by rw [← hsX, size_of]; exact textX_len hrx
      obtain ⟨ux, hux, huxr⟩ := readE_behind hrx K
      obtain ⟨SX2, hSX2⟩ : ∃ s : ByteArray, s = sX ++ z := ⟨_, rfl⟩
      have HSX2 := hide hSX2
      have HUX : Hid (lexA rightK SX2.data.toList 0 = .ok ux) := hide (by rw [hSX2, cat_list, unhide HZL, ← hsX]; simpa using hux)
      have hzX2 : SX2.size ≤ 19999 := by rw [hSX2, cat_size]; omega
      have HUXR := hide huxr
      obtain ⟨sY, hsY⟩ : ∃ s : ByteArray, (⟨(textX ys).toArray⟩ : ByteArray) = s := ⟨_, rfl⟩
      have HSY := hide hsY
      obtain ⟨q2, hq2⟩ : ∃ q, decide (xs = ys) = q := ⟨_, rfl⟩
      have HUV : (sX.toList == sY.toList) = q2 := (same_expr hrx hry hsX hsY).trans hq2
      have HQ2 := hide hq2
      clear hq2
      clear hrx hry hsX hux huxr hSX2 hsY
      go_wp2_with fail
      refine (expr_right xa xl xc xs sX _ (he.on hbw6) (hX.on hbw6) (unhide ht3') HRX HSX).mono ?_
      rintro e w20 ⟨rfl, hb20⟩
      have hbw20 := bt hbw6 hb20
      clear hbw6 hb20
      go_wp2_with fail
      refine (expr_right ya yl yc ys sY _ (he.on hbw20) (hY.on hbw20) (unhide ht4') HRY HSY).mono ?_
      rintro e w21 ⟨rfl, hb21⟩
      have hbw21 := bt hbw20 hb21
      clear hbw20 hb21
      go_wp2_with fail
      rw [← unhide HSX2]
      refine (lex_lies SX2 ux _ hzX2 (he.on hbw21) HUX).mono ?_
      rintro e w22 ⟨⟨lx, cx, xs3, rfl, hl22, HK22, HZ22, hu22⟩, hb22⟩
      have hbx : Below w22.heap.size w22 (w22.alloc (objPos 0 0)) := (Below.refl _ _).alloc (Nat.le_refl _) _
      have hl22' := hl22.on hbx
      have hbw22 := bt (bt hbw21 hb22) hbx
      have HR22 : Hid (readE (xs3.map ktm) 0 = .ok (xs, (exprK xs).length)) := hide (by rw [unhide HK22]; exact unhide HUXR)
      clear hbw21 hb22 hbx hl22 HK22 HUXR HUX HSX2
      go_wp2_with fail
      generalize w22.alloc (objPos 0 0) = W22 at hl22' hbw22 ⊢
      refine (rexpr_ok lx ux.length cx xs3 0 _ _ (he.on hbw22) hl22' HZ22 hu22 (Nat.zero_le _) HR22).mono ?_
      rintro e w23 ⟨⟨za, zl, zc, rfl, hzz⟩, hb23⟩
      simp only at hzz ⊢
      have hbw23 := bt hbw22 hb23
      have hX23 := hX.on hbw23
      have F1 := keepOps_any za xa zl xl zc xc xs xs w23 hzz.row hX23.row hzz.le hzz.ge hX23.le hX23.ge (by have := hzz.len; have := hX.len; omega)
      rw [decide_eq_true rfl] at F1
      have F1H := hide F1
      clear F1 hX23 hzz hbw22 hb23 hl22' HR22 HZ22 hu22
      go_wp2_with fail
      refine (unhide F1H).mono ?_
      rintro e w24 ⟨rfl, hb24⟩
      have hbw24 := bt hbw23 hb24
      clear hbw23 hb24 F1H
      have hX24 := hX.on hbw24
      have hY24 := hY.on hbw24
      have F2 := keepOps_any xa ya xl yl xc yc xs ys w24 hX24.row hY24.row hX24.le hX24.ge hY24.le hY24.ge (by omega)
      rw [unhide HQ2] at F2
      have F2H := hide F2
      clear F2 hX24 hY24
      go_wp2_with fail
      refine (unhide F2H).mono ?_
      rintro e w25 ⟨rfl, hb25⟩
      have hbw25 := bt hbw24 hb25
      clear hbw24 hb25 F2H HQ2
      go_wp2_with fail
      refine (wakes_any _ (he.on hbw25)).mono ?_
      rintro e w26 ⟨rfl, hb26⟩
      go_wp2_with fail
      go_ret
      exact ⟨rfl, bt hbw25 hb26⟩
end Go.Proofs.YtdonokmnfniobaaGreatDoor.Sb

/- The walk of constablelaw10.AtomsBack, where the first atom is right, the second right. -/
import Derived.Test.YtdonokmnfniobaaGreatDoorAtBk
namespace Go.Proofs.YtdonokmnfniobaaGreatDoor.Sb
open Go.RowKit
open V
open Ex (RowO LiesO flatO)

set_option maxHeartbeats 16000000 in
set_option maxRecDepth 100000 in
theorem back_a (na : ByteArray) (aa : Option Addr) (la ca : Nat) (ta : List Bb) (nb : ByteArray) (ab : Option Addr) (lb cb : Nat) (tb : List Bb) (xa : Option Addr) (xl xc : Nat) (xs : List Oo) (ya : Option Addr) (yl yc : Nat) (ys : List Oo) (h : Int) (w : World) (he : Env w) (hA : Lies w aa la ca ta) (hB : Lies w ab lb cb tb) (hX : LiesO w xa xl xc xs) (hY : LiesO w ya yl yc ys) (HRA : Hid (rightA na ta = true)) (HRB : Hid (rightA nb tb = true)) :
    Calls Tryz.prog 3 #[.agg #[.string na, .slice aa la ca], .agg #[.string nb, .slice ab lb cb], .slice xa xl xc, .slice ya yl yc, .int .i64 h] w fun e w' => e = .returned (.bool true) ∧ Below w.heap.size w w' := by
  obtain ⟨i0, i1⟩ := idx6 h
  have hT := behV_at (wrap64 ((IntKind.u64.wrap h).tmod 6)).toNat (by omega)
  obtain ⟨z, hz⟩ : ∃ z : ByteArray, z = ⟨(glue (behindPs (wrap64 ((IntKind.u64.wrap h).tmod 6)).toNat)).toArray⟩ := ⟨_, rfl⟩
  rw [← hz] at hT
  obtain ⟨K, hzl⟩ : ∃ K, z.data.toList = glue (behindPs K) := ⟨_, by rw [hz]⟩
  have HZL := hide hzl
  have hz5 : z.size ≤ 5 := by rw [← size_list, hzl]; exact behind_len K
  simp only [behV] at hT
  clear hz hzl
  obtain ⟨A0, B0, hbw⟩ := boxes2 w na (.slice aa la ca) nb (.slice ab lb cb)
  obtain ⟨a0, a1⟩ : _ ∧ _ := ⟨A0.c0, A0.c1⟩
  obtain ⟨b0, b1⟩ : _ ∧ _ := ⟨B0.c0, B0.c1⟩
  have F1 := hide (aheavy_any na aa la ca ta _ (hA.on hbw))
  go_enter Tryz.func3, Tryz.ntmps3
  go_wp2_with fail
  refine (unhide F1).mono ?_
  rintro e w1 ⟨rfl | ⟨rfl, hn1, hl1, ht1⟩, hb1⟩
  · go_wp2_with fail
    go_ret
    exact ⟨rfl, bt hbw hb1⟩
  have A1 := A0.on hb1
  have B1 := B0.on hb1
  have hbw1 := bt hbw hb1
  clear a0 a1 b0 b1 A0 B0 hbw hb1 F1
  obtain ⟨a0, a1⟩ : _ ∧ _ := ⟨A1.c0, A1.c1⟩
  obtain ⟨b0, b1⟩ : _ ∧ _ := ⟨B1.c0, B1.c1⟩
  have F2 := hide (aheavy_any nb ab lb cb tb w1 (hB.on hbw1))
  have ht1' := hide ht1
  clear ht1
  go_wp2_with fail
  refine (unhide F2).mono ?_
  rintro e w2 ⟨rfl | ⟨rfl, hn2, hl2, ht2⟩, hb2⟩
  · go_wp2_with fail
    go_ret
    exact ⟨rfl, bt hbw1 hb2⟩
  have A2 := A1.on hb2
  have B2 := B1.on hb2
  have hbw2 := bt hbw1 hb2
  have ht2' := hide ht2
  clear a0 a1 b0 b1 A1 B1 hbw1 hb2 F2 ht2
  have F3 := hide (oheavy_any xa xl xc xs w2 (hX.on hbw2).row (hX.on hbw2).le (hX.on hbw2).ge)
  go_wp2_with fail
  refine (unhide F3).mono ?_
  rintro e w3 ⟨rfl | ⟨rfl, hl3, ht3⟩, hb3⟩
  · go_wp2_with fail
    go_ret
    exact ⟨rfl, bt hbw2 hb3⟩
  have A3 := A2.on hb3
  have B3 := B2.on hb3
  have hbw3 := bt hbw2 hb3
  have ht3' := hide ht3
  clear A2 B2 hbw2 hb3 F3 ht3
  have F4 := hide (oheavy_any ya yl yc ys w3 (hY.on hbw3).row (hY.on hbw3).le (hY.on hbw3).ge)
  go_wp2_with fail
  refine (unhide F4).mono ?_
  rintro e w4 ⟨rfl | ⟨rfl, hl4, ht4⟩, hb4⟩
  · go_wp2_with fail
    go_ret
    exact ⟨rfl, bt hbw3 hb4⟩
  have hbx : Below w4.heap.size w4 (w4.alloc (.cells behV.toArray 9)) := (Below.refl _ _).alloc (Nat.le_refl _) _
  have A4 := (A3.on hb4).on hbx
  have B4 := (B3.on hb4).on hbx
  have hbw4 := bt (bt hbw3 hb4) hbx
  have ht4' := hide ht4
  have hbeh := hide (heap_alloc_new w4 (.cells behV.toArray 9))
  clear A3 B3 hbw3 hb4 F4 ht4 hbx
  simp only [behV] at A4 B4 hbw4
  clear hbeh
  obtain ⟨a0, a1⟩ : _ ∧ _ := ⟨A4.c0, A4.c1⟩
  obtain ⟨b0, b1⟩ : _ ∧ _ := ⟨B4.c0, B4.c1⟩
  go_wp2_with fail
  clear hT i0 i1 a0 a1 b0 b1
  generalize w4.alloc (.cells #[.string ⟨#[]⟩, .string ⟨#[32, 46]⟩, .string ⟨#[32, 41]⟩, .string ⟨#[32, 44]⟩, .string ⟨#[32, 93]⟩, .string ⟨#[32, 61, 62, 32, 112]⟩] 9) = W4 at A4 B4 hbw4 ⊢
  obtain ⟨sA, hsA⟩ : ∃ s : ByteArray, (⟨(textA (na.data.toList, ta)).toArray⟩ : ByteArray) = s := ⟨_, rfl⟩
  have HSA := hide hsA
  have hzsA : sA.size ≤ 700 := by rw [← hsA, size_of]; exact textA_len (a := (na.data.toList, ta)) (unhide HRA)
  obtain ⟨sB, hsB⟩ : ∃ s : ByteArray, (⟨(textA (nb.data.toList, tb)).toArray⟩ : ByteArray) = s := ⟨_, rfl⟩
  have HSB := hide hsB
  have hzsB : sB.size ≤ 700 := by rw [← hsB, size_of]; exact textA_len (a := (nb.data.toList, tb)) (unhide HRB)
  obtain ⟨qq, hqq⟩ : ∃ q, decide (na = nb ∧ ta = tb) = q := ⟨_, rfl⟩
  have HST : (sA.toList == sB.toList) = qq := (same_text (unhide HRA) (unhide HRB) hsA hsB).trans hqq
  have HQQ := hide hqq
  clear hqq
  obtain ⟨us, hu, hur⟩ := read_behind (a := (na.data.toList, ta)) (unhide HRA) K
  obtain ⟨us2, hv, hvk, -⟩ := read_text (a := (na.data.toList, ta)) (unhide HRA) 0
  obtain ⟨S2, hS2⟩ : ∃ s : ByteArray, s = sA ++ z := ⟨_, rfl⟩
  have HS2 := hide hS2
  have HU : Hid (lexA rightK S2.data.toList 0 = .ok us) := hide (by rw [hS2, cat_list, unhide HZL, ← hsA]; simpa using hu)
  have HU2 : Hid (lexA rightK sA.data.toList 0 = .ok us2) := hide (by rw [← hsA]; simpa using hv)
  have hzS2 : S2.size ≤ 19999 := by rw [hS2, cat_size]; omega
  have hzA : sA.size ≤ 19999 := by omega
  have HPA : Hid (parseA sA.data.toList = some (na.data.toList, ta)) := hide (by rw [← hsA]; exact parseA_text (a := (na.data.toList, ta)) (unhide HRA))
  have hM : (atomK (na.data.toList, ta)).length = us2.length := by rw [← hvk, List.length_map]
  rw [hM] at hur
  have HUR := hide hur
  have hta5 : ta.length ≤ 5 := (right_parts (unhide HRA)).2.1
  have hna : ∀ s : ByteArray, s.data.toList = na.data.toList → s = na := fun s h => bytes_inj h
  have HNA := hide hna
  clear hu hur hv hvk hS2 hM hsA hna
  clear hsB
  refine (text_right na aa la ca ta sA _ (he.on hbw4) (hA.on hbw4) HRA HSA).mono ?_
  rintro e w5 ⟨rfl, hb5⟩
  have A5 := A4.on hb5
  have B5 := B4.on hb5
  have hbw5 := bt hbw4 hb5
  clear A4 B4 hbw4 hb5
  obtain ⟨a0, a1⟩ : _ ∧ _ := ⟨A5.c0, A5.c1⟩
  obtain ⟨b0, b1⟩ : _ ∧ _ := ⟨B5.c0, B5.c1⟩
  go_wp2_with fail
  refine (text_right nb ab lb cb tb sB _ (he.on hbw5) (hB.on hbw5) HRB HSB).mono ?_
  rintro e w6 ⟨rfl, hb6⟩
  have A6 := A5.on hb6
  have B6 := B5.on hb6
  have hbw6 := bt hbw5 hb6
  clear A5 B5 hbw5 hb6
  clear a0 a1 b0 b1
  go_wp2_with fail
  refine (parse_ok sA (na.data.toList, ta) _ (he.on hbw6) hzA HPA).mono ?_
  rintro e w7 ⟨⟨nc, ac, lc, cc, rfl, hnc, hLc⟩, hb7⟩
  simp only at hnc hLc
  have hbx : Below w7.heap.size w7 (w7.alloc (.cells #[.string nc, .slice ac lc cc] 24)) := (Below.refl _ _).alloc (Nat.le_refl _) _
  have C7 := AB.new w7 nc (.slice ac lc cc)
  have A7 := (A6.on hb7).on hbx
  have B7 := (B6.on hb7).on hbx
  have hLc7 := hLc.on hbx
  have hbw7 := bt (bt hbw6 hb7) hbx
  have hlc : lc ≤ 5 := by have := hLc.len; omega
  clear A6 B6 hbw6 hb7 hbx hLc
  go_wp2_with fail
  rw [← unhide HS2]
  have hszc : w7.heap.size < (w7.alloc (.cells #[.string nc, .slice ac lc cc] 24)).heap.size := C7.lt
  generalize w7.heap.size = pc at C7 hszc ⊢
  generalize w7.alloc (.cells #[.string nc, .slice ac lc cc] 24) = W7 at C7 A7 B7 hLc7 hbw7 hszc ⊢
  refine (lex_lies S2 us _ hzS2 (he.on hbw7) HU).mono ?_
  rintro e w8 ⟨⟨lt, ct, xs1, rfl, hl8, HK8, HZ8, hu8⟩, hb8⟩
  have hbx : Below w8.heap.size w8 (w8.alloc (objPos 0 0)) := (Below.refl _ _).alloc (Nat.le_refl _) _
  have C8 := (C7.on hb8).on hbx
  have A8 := (A7.on hb8).on hbx
  have B8 := (B7.on hb8).on hbx
  have hLc8 := (hLc7.on hb8).on hbx
  have hl8' := hl8.on hbx
  have hbw8 := bt (bt hbw7 hb8) hbx
  have HR8 : Hid (readA (xs1.map ktm) 0 = .ok ((na.data.toList, ta), us2.length)) := hide (by rw [unhide HK8]; exact unhide HUR)
  clear C7 A7 B7 hLc7 hbw7 hb8 hbx hl8 HK8 HUR HU HS2 hszc
  go_wp2_with fail
  generalize w8.alloc (objPos 0 0) = W8 at C8 A8 B8 hLc8 hl8' hbw8 ⊢
  refine (lex_lies sA us2 _ hzA (he.on hbw8) HU2).mono ?_
  rintro e w9 ⟨⟨lk, ck, xs2, rfl, -, -, -, hu9⟩, hb9⟩
  have hbx : Below w9.heap.size w9 (w9.alloc (objPos 0 0)) := (Below.refl _ _).alloc (Nat.le_refl _) _
  have C9 := (C8.on hb9).on hbx
  have A9 := (A8.on hb9).on hbx
  have B9 := (B8.on hb9).on hbx
  have hLc9 := (hLc8.on hb9).on hbx
  have hl9 := (hl8'.on hb9).on hbx
  have hbw9 := bt (bt hbw8 hb9) hbx
  clear C8 A8 B8 hLc8 hbw8 hb9 hbx hl8' HU2
  go_wp2_with fail
  generalize w9.alloc (objPos 0 0) = W9 at C9 A9 B9 hLc9 hl9 hbw9 ⊢
  refine (read_ok lt us.length ct xs1 0 _ _ (he.on hbw9) hl9 HZ8 hu8 (Nat.zero_le _) HR8).mono ?_
  rintro e w10 ⟨⟨nd, ad, ld, cd, rfl, hnd, hown⟩, hb10⟩
  simp only at hnd hown ⊢
  have hbx : Below w10.heap.size w10 (w10.alloc (.cells #[.string nd, .slice ad ld cd] 24)) := (Below.refl _ _).alloc (Nat.le_refl _) _
  have D10 := AB.new w10 nd (.slice ad ld cd)
  have C10 := (C9.on hb10).on hbx
  have A10 := (A9.on hb10).on hbx
  have B10 := (B9.on hb10).on hbx
  have hLc10 := (hLc9.on hb10).on hbx
  have hLd10 := (lies_row hown).on hbx
  have hld : ld ≤ 5 := by have := (lies_row hown).len; omega
  have hbw10 := bt (bt hbw9 hb10) hbx
  have hncE := unhide HNA nc hnc
  have hndE := hide (unhide HNA nd hnd)
  have FC := keepAtom_any nc na ac aa lc la cc ca ta ta (w10.alloc (.cells #[.string nd, .slice ad ld cd] 24)) hLc10 (hA.on hbw10) (by omega)
  rw [decide_eq_true (⟨hncE, rfl⟩ : nc = na ∧ ta = ta)] at FC
  have FCH := hide FC
  obtain ⟨a0, a1⟩ : _ ∧ _ := ⟨A10.c0, A10.c1⟩
  obtain ⟨c0, c1⟩ : _ ∧ _ := ⟨C10.c0, C10.c1⟩
  clear C9 A9 B9 hLc9 hbw9 hb10 hbx hl9 HR8 HZ8 hown hnc hnd HNA FC hncE hu8 HPA
  go_wp2_with fail
  clear a0 a1 c0 c1
  have hszd : w10.heap.size < (w10.alloc (.cells #[.string nd, .slice ad ld cd] 24)).heap.size := D10.lt
  generalize w10.heap.size = pd at D10 hszd ⊢
  generalize w10.alloc (.cells #[.string nd, .slice ad ld cd] 24) = W10 at C10 A10 B10 D10 hLd10 hbw10 FCH hszd hLc10 ⊢
  refine (unhide FCH).mono ?_
  rintro e w11 ⟨rfl, hb11⟩
  have A11 := A10.on hb11
  have B11 := B10.on hb11
  have D11 := D10.on hb11
  have hLd11 := hLd10.on hb11
  have hbw11 := bt hbw10 hb11
  have FD := keepAtom_any nd na ad aa ld la cd ca ta ta w11 hLd11 (hA.on hbw11) (by omega)
  rw [decide_eq_true (⟨unhide hndE, rfl⟩ : nd = na ∧ ta = ta)] at FD
  have FDH := hide FD
  obtain ⟨a0, a1⟩ : _ ∧ _ := ⟨A11.c0, A11.c1⟩
  obtain ⟨d0, d1⟩ : _ ∧ _ := ⟨D11.c0, D11.c1⟩
  clear C10 A10 B10 D10 hLd10 hbw10 hb11 FCH FD hndE hszd hLc10
  go_wp2_with fail
  refine (unhide FDH).mono ?_
  rintro e w12 ⟨rfl, hb12⟩
  have A12 := A11.on hb12
  have B12 := B11.on hb12
  have hbw12 := bt hbw11 hb12
  clear a0 a1 d0 d1 A11 B11 D11 hLd11 hbw11 hb12 FDH
  obtain ⟨a0, a1⟩ : _ ∧ _ := ⟨A12.c0, A12.c1⟩
  obtain ⟨b0, b1⟩ : _ ∧ _ := ⟨B12.c0, B12.c1⟩
  have FE := keepAtom_any na nb aa ab la lb ca cb ta tb w12 (hA.on hbw12) (hB.on hbw12) (by omega)
  rw [unhide HQQ] at FE
  have FEH := hide FE
  clear FE HQQ
  go_wp2_with fail
  refine (unhide FEH).mono ?_
  rintro e w13 ⟨rfl, hb13⟩
  have hbw13 := bt hbw12 hb13
  clear a0 a1 b0 b1 A12 B12 hbw12 hb13 FEH
  obtain ⟨rx, hrx⟩ : ∃ r, exprB xs = r := ⟨_, rfl⟩
  obtain ⟨ry, hry⟩ : ∃ r, exprB ys = r := ⟨_, rfl⟩
  have HRX := hide hrx
  have HRY := hide hry
  cases rx with
  | false =>
    cases ry with
    | false =>
      clear hrx hry
      go_wp2_with fail
      refine (expr_wrong' xa xl xc xs _ (hX.on hbw13) (unhide ht3') (by omega) HRX).mono ?_
      rintro e w20 ⟨rfl, hb20⟩
      have hbw20 := bt hbw13 hb20
      clear hbw13 hb20
      go_wp2_with fail
      refine (expr_wrong' ya yl yc ys _ (hY.on hbw20) (unhide ht4') (by omega) HRY).mono ?_
      rintro e w21 ⟨rfl, hb21⟩
      have hbw21 := bt hbw20 hb21
      clear hbw20 hb21
      go_wp2_with fail
      refine (wakes_any _ (he.on hbw21)).mono ?_
      rintro e w22 ⟨rfl, hb22⟩
      go_wp2_with fail
      go_ret
      exact ⟨rfl, bt hbw21 hb22⟩
    | true =>
      obtain ⟨sY, hsY⟩ : ∃ s : ByteArray, (⟨(textX ys).toArray⟩ : ByteArray) = s := ⟨_, rfl⟩
      have HSY := hide hsY
      clear hrx hry hsY
      go_wp2_with fail
      refine (expr_wrong' xa xl xc xs _ (hX.on hbw13) (unhide ht3') (by omega) HRX).mono ?_
      rintro e w20 ⟨rfl, hb20⟩
      have hbw20 := bt hbw13 hb20
      clear hbw13 hb20
      go_wp2_with fail
      refine (expr_right ya yl yc ys sY _ (he.on hbw20) (hY.on hbw20) (unhide ht4') HRY HSY).mono ?_
      rintro e w21 ⟨rfl, hb21⟩
      have hbw21 := bt hbw20 hb21
      clear hbw20 hb21
      go_wp2_with fail
      refine (wakes_any _ (he.on hbw21)).mono ?_
      rintro e w22 ⟨rfl, hb22⟩
      go_wp2_with fail
      go_ret
      exact ⟨rfl, bt hbw21 hb22⟩
  | true =>
    cases ry with
    | false =>
      obtain ⟨sX, hsX⟩ : ∃ s : ByteArray, (⟨(textX xs).toArray⟩ : ByteArray) = s := ⟨_, rfl⟩
      have HSX := hide hsX
      have hzX : sX.size ≤ 1900 := by rw [← hsX, size_of]; exact textX_len hrx
      obtain ⟨ux, hux, huxr⟩ := readE_behind hrx K
      obtain ⟨SX2, hSX2⟩ : ∃ s : ByteArray, s = sX ++ z := ⟨_, rfl⟩
      have HSX2 := hide hSX2
      have HUX : Hid (lexA rightK SX2.data.toList 0 = .ok ux) := hide (by rw [hSX2, cat_list, unhide HZL, ← hsX]; simpa using hux)
      have hzX2 : SX2.size ≤ 19999 := by rw [hSX2, cat_size]; omega
      have HUXR := hide huxr
      clear hrx hry hsX hux huxr hSX2
      go_wp2_with fail
      refine (expr_right xa xl xc xs sX _ (he.on hbw13) (hX.on hbw13) (unhide ht3') HRX HSX).mono ?_
      rintro e w20 ⟨rfl, hb20⟩
      have hbw20 := bt hbw13 hb20
      clear hbw13 hb20
      go_wp2_with fail
      refine (expr_wrong' ya yl yc ys _ (hY.on hbw20) (unhide ht4') (by omega) HRY).mono ?_
      rintro e w21 ⟨rfl, hb21⟩
      have hbw21 := bt hbw20 hb21
      clear hbw20 hb21
      go_wp2_with fail
      rw [← unhide HSX2]
      refine (lex_lies SX2 ux _ hzX2 (he.on hbw21) HUX).mono ?_
      rintro e w22 ⟨⟨lx, cx, xs3, rfl, hl22, HK22, HZ22, hu22⟩, hb22⟩
      have hbx : Below w22.heap.size w22 (w22.alloc (objPos 0 0)) := (Below.refl _ _).alloc (Nat.le_refl _) _
      have hl22' := hl22.on hbx
      have hbw22 := bt (bt hbw21 hb22) hbx
      have HR22 : Hid (readE (xs3.map ktm) 0 = .ok (xs, (exprK xs).length)) := hide (by rw [unhide HK22]; exact unhide HUXR)
      clear hbw21 hb22 hbx hl22 HK22 HUXR HUX HSX2
      go_wp2_with fail
      generalize w22.alloc (objPos 0 0) = W22 at hl22' hbw22 ⊢
      refine (rexpr_ok lx ux.length cx xs3 0 _ _ (he.on hbw22) hl22' HZ22 hu22 (Nat.zero_le _) HR22).mono ?_
      rintro e w23 ⟨⟨za, zl, zc, rfl, hzz⟩, hb23⟩
      simp only at hzz ⊢
      have hbw23 := bt hbw22 hb23
      have hX23 := hX.on hbw23
      have F1 := keepOps_any za xa zl xl zc xc xs xs w23 hzz.row hX23.row hzz.le hzz.ge hX23.le hX23.ge (by have := hzz.len; have := hX.len; omega)
      rw [decide_eq_true rfl] at F1
      have F1H := hide F1
      clear F1 hX23 hzz hbw22 hb23 hl22' HR22 HZ22 hu22
      go_wp2_with fail
      refine (unhide F1H).mono ?_
      rintro e w24 ⟨rfl, hb24⟩
      have hbw24 := bt hbw23 hb24
      clear hbw23 hb24 F1H
      go_wp2_with fail
      refine (wakes_any _ (he.on hbw24)).mono ?_
      rintro e w26 ⟨rfl, hb26⟩
      go_wp2_with fail
      go_ret
      exact ⟨rfl, bt hbw24 hb26⟩
    | true =>
      obtain ⟨sX, hsX⟩ : ∃ s : ByteArray, (⟨(textX xs).toArray⟩ : ByteArray) = s := ⟨_, rfl⟩
      have HSX := hide hsX
      have hzX : sX.size ≤ 1900 := by rw [← hsX, size_of]; exact textX_len hrx
      obtain ⟨ux, hux, huxr⟩ := readE_behind hrx K
      obtain ⟨SX2, hSX2⟩ : ∃ s : ByteArray, s = sX ++ z := ⟨_, rfl⟩
      have HSX2 := hide hSX2
      have HUX : Hid (lexA rightK SX2.data.toList 0 = .ok ux) := hide (by rw [hSX2, cat_list, unhide HZL, ← hsX]; simpa using hux)
      have hzX2 : SX2.size ≤ 19999 := by rw [hSX2, cat_size]; omega
      have HUXR := hide huxr
      obtain ⟨sY, hsY⟩ : ∃ s : ByteArray, (⟨(textX ys).toArray⟩ : ByteArray) = s := ⟨_, rfl⟩
      have HSY := hide hsY
      obtain ⟨q2, hq2⟩ : ∃ q, decide (xs = ys) = q := ⟨_, rfl⟩
      have HUV : (sX.toList == sY.toList) = q2 := (same_expr hrx hry hsX hsY).trans hq2
      have HQ2 := hide hq2
      clear hq2
      clear hrx hry hsX hux huxr hSX2 hsY
      go_wp2_with fail
      refine (expr_right xa xl xc xs sX _ (he.on hbw13) (hX.on hbw13) (unhide ht3') HRX HSX).mono ?_
      rintro e w20 ⟨rfl, hb20⟩
      have hbw20 := bt hbw13 hb20
      clear hbw13 hb20
      go_wp2_with fail
      refine (expr_right ya yl yc ys sY _ (he.on hbw20) (hY.on hbw20) (unhide ht4') HRY HSY).mono ?_
      rintro e w21 ⟨rfl, hb21⟩
      have hbw21 := bt hbw20 hb21
      clear hbw20 hb21
      go_wp2_with fail
      rw [← unhide HSX2]
      refine (lex_lies SX2 ux _ hzX2 (he.on hbw21) HUX).mono ?_
      rintro e w22 ⟨⟨lx, cx, xs3, rfl, hl22, HK22, HZ22, hu22⟩, hb22⟩
      have hbx : Below w22.heap.size w22 (w22.alloc (objPos 0 0)) := (Below.refl _ _).alloc (Nat.le_refl _) _
      have hl22' := hl22.on hbx
      have hbw22 := bt (bt hbw21 hb22) hbx
      have HR22 : Hid (readE (xs3.map ktm) 0 = .ok (xs, (exprK xs).length)) := hide (by rw [unhide HK22]; exact unhide HUXR)
      clear hbw21 hb22 hbx hl22 HK22 HUXR HUX HSX2
      go_wp2_with fail
      generalize w22.alloc (objPos 0 0) = W22 at hl22' hbw22 ⊢
      refine (rexpr_ok lx ux.length cx xs3 0 _ _ (he.on hbw22) hl22' HZ22 hu22 (Nat.zero_le _) HR22).mono ?_
      rintro e w23 ⟨⟨za, zl, zc, rfl, hzz⟩, hb23⟩
      simp only at hzz ⊢
      have hbw23 := bt hbw22 hb23
      have hX23 := hX.on hbw23
      have F1 := keepOps_any za xa zl xl zc xc xs xs w23 hzz.row hX23.row hzz.le hzz.ge hX23.le hX23.ge (by have := hzz.len; have := hX.len; omega)
      rw [decide_eq_true rfl] at F1
      have F1H := hide F1
      clear F1 hX23 hzz hbw22 hb23 hl22' HR22 HZ22 hu22
      go_wp2_with fail
      refine (unhide F1H).mono ?_
      rintro e w24 ⟨rfl, hb24⟩
      have hbw24 := bt hbw23 hb24
      clear hbw23 hb24 F1H
      have hX24 := hX.on hbw24
      have hY24 := hY.on hbw24
      have F2 := keepOps_any xa ya xl yl xc yc xs ys w24 hX24.row hY24.row hX24.le hX24.ge hY24.le hY24.ge (by omega)
      rw [unhide HQ2] at F2
      have F2H := hide F2
      clear F2 hX24 hY24
      go_wp2_with fail
      refine (unhide F2H).mono ?_
      rintro e w25 ⟨rfl, hb25⟩
      have hbw25 := bt hbw24 hb25
      clear hbw24 hb25 F2H HQ2
      go_wp2_with fail
      refine (wakes_any _ (he.on hbw25)).mono ?_
      rintro e w26 ⟨rfl, hb26⟩
      go_wp2_with fail
      go_ret
      exact ⟨rfl, bt hbw25 hb26⟩
end Go.Proofs.YtdonokmnfniobaaGreatDoor.Sb

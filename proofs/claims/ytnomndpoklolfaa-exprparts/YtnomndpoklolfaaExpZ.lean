/- The walk of constablelaw07.ExprParts: it answers true, whatever the steps, the kind, the values. -/
import Derived.Test.YtnomndpoklolfaaExpW
import Derived.Test.YtnomndpoklolfaaExpJ
import Derived.Test.YtnomndpoklolfaaExpX
namespace Go.Proofs.Ytnomndpoklolfaa.Sb
open Go.RowKit
open V
open Ex (RowO LiesO flatO flatO_len flatO_app flatO_oneCell liesO_own liesO_none)

theorem kind_of (kd : Int) : ∃ k : Int, wrap64 (3 + wrap64 ((IntKind.u64.wrap kd).tmod 3)) = k ∧ (k = 3 ∨ k = 4 ∨ k = 5) := by
  refine ⟨_, rfl, ?_⟩
  have h0 : 0 ≤ IntKind.u64.wrap kd := by simp [IntKind.wrap, IntKind.bits, IntKind.signed]; omega
  generalize IntKind.u64.wrap kd = m at h0
  rw [Int.tmod_eq_emod_of_nonneg h0]
  have e1 : wrap64 (m % 3) = m % 3 := by simp [wrap64]; omega
  rw [e1]
  have e2 : wrap64 (3 + m % 3) = 3 + m % 3 := by simp [wrap64]; omega
  rw [e2]
  omega
theorem part_last {l : List Oo} (h : exprB l = true) {e : Nat} (he : e + 1 = l.length) : partR l e = 0 := by
  have hr := (expr_iff.1 h).2.2
  rw [partR_in h (by omega)]
  obtain ⟨a, p1, p2, p3, p4⟩ := part_spec hr (show e < l.length by omega)
  have hd : dep l (e + 1) = 1 := by
    have := dep_run hr (e + 1)
    rw [List.take_of_length_le (by omega), hr] at this
    simpa using this.symm
  rw [p1]
  have : a = 0 := part_only (l := l) p2 (Nat.zero_le _) p3 p4 (by rw [dep_zero, hd]) (fun j hj hje => by
    rw [hd]
    obtain ⟨i, rfl⟩ : ∃ i, j = i + 1 := ⟨j - 1, by omega⟩
    exact dep_pos hr (by omega))
  subst this; rfl
theorem dep_left {x y : List Oo} {o : Oo} {j : Nat} (hj : j ≤ y.length) (hx : exprB x = true) (hy : exprB y = true) : dep (x ++ y ++ [o]) (x.length + j) = dep y j + 1 := by
  have hx3 := (expr_iff.1 hx).2.2
  have hy3 := (expr_iff.1 hy).2.2
  have e : (x ++ y ++ [o]).take (x.length + j) = x ++ y.take j := by
    rw [List.append_assoc, List.take_length_add_append, List.take_append_of_le_length hj]
  have h1 := dep_run hy3 j
  unfold dep
  rw [e, run_app, hx3, Option.bind_some, run_add 1 h1]
  rfl
theorem part_second {x y : List Oo} {o : Oo} (hx : exprB x = true) (hy : exprB y = true) (h : exprB (x ++ y ++ [o]) = true) {e : Nat} (he : e + 1 = x.length + y.length) : partR (x ++ y ++ [o]) e = x.length := by
  have hr := (expr_iff.1 h).2.2
  have hy1 := (expr_iff.1 hy).1.1
  have hy3 := (expr_iff.1 hy).2.2
  have hl : (x ++ y ++ [o]).length = x.length + y.length + 1 := by simp; omega
  rw [partR_in h (by omega)]
  obtain ⟨a, p1, p2, p3, p4⟩ := part_spec hr (show e < (x ++ y ++ [o]).length by omega)
  have hd : dep (x ++ y ++ [o]) (e + 1) = 2 := by
    rw [he, dep_left (Nat.le_refl _) hx hy]
    have := dep_run hy3 y.length
    rw [List.take_of_length_le (Nat.le_refl _), hy3] at this
    have e : dep y y.length = 1 := by simpa using this.symm
    rw [e]
  rw [p1]
  have : a = x.length := part_only (l := x ++ y ++ [o]) p2 (by omega) p3 p4 (by
      have := dep_left (o := o) (j := 0) (Nat.zero_le _) hx hy
      rw [Nat.add_zero, dep_zero] at this
      rw [hd, this]) (fun j hj hje => by
    rw [hd]
    obtain ⟨i, rfl⟩ : ∃ i, j = x.length + (i + 1) := ⟨j - x.length - 1, by omega⟩
    rw [dep_left (by omega) hx hy]
    have := dep_pos hy3 (show i < y.length by omega)
    omega)
  rw [this]
/-- The cells of one step in a block of its own. -/
theorem cells_o {W : World} {b : Nat} {x : Oo} (h : W.heap[b]? = some (bxO x)) : ∀ (j : Nat) (u : Value), (flatO [x])[j]? = some u → W.cell? ((⟨b, 0, none⟩ : Addr).add j) = some u := by
  intro j u hu
  rw [WideShapes.add_plain, Lib.cell_of_heap h]
  match j, hu with
  | 0, hu => simpa [flatO] using hu
  | 1, hu => simpa [flatO] using hu
  | 2, hu => simpa [flatO] using hu
  | 3, hu => simpa [flatO] using hu
  | 4, hu => simpa [flatO] using hu
  | j + 5, hu => simp [flatO] at hu
theorem right_add {k : Int} (h : k = 3 ∨ k = 4 ∨ k = 5) : rightO (k, ⟨#[]⟩, zeroV) = true := by rcases h with rfl | rfl | rfl <;> rfl
theorem push_add {k : Int} (h : k = 3 ∨ k = 4 ∨ k = 5) : pushO (k, ⟨#[]⟩, zeroV) = false := by rcases h with rfl | rfl | rfl <;> rfl
theorem evalR_yes {b : List Bb} {l : List Oo} (h : exprB l = true) (k : listB b = true) : evalR b l = evalL b l := by
  unfold evalR
  rw [if_pos ⟨h, k⟩]
theorem part_mid {xs ys L : List Oo} {k : Int} {l1 l2 m : Nat} (HL : Hid (xs ++ ys ++ [(k, (⟨#[]⟩ : ByteArray), zeroV)] = L)) (HX : Hid (exprB xs = true)) (HY : Hid (exprB ys = true)) (HXL : Hid (exprB L = true)) (HM : Hid (l1 + l2 = m + 1)) (hx : l1 = xs.length) (hy : l2 = ys.length) : partR L (m : Int) = (l1 : Int) := by
  have h := unhide HL
  have hm := unhide HM
  have hL := unhide HXL
  subst h
  rw [part_second (unhide HX) (unhide HY) hL (by omega), hx]
theorem join_res {bs : List Bb} {xs ys L : List Oo} {k e1 e2 e3 : Int} {v y u : Vv} (HL : Hid (xs ++ ys ++ [(k, (⟨#[]⟩ : ByteArray), zeroV)] = L)) (HX : Hid (exprB xs = true)) (HY : Hid (exprB ys = true)) (HK : Hid (k = 3 ∨ k = 4 ∨ k = 5)) (HV : Hid (evalL bs xs = (v, e1))) (HU : Hid (evalL bs ys = (y, e2))) (HT : Hid (evalL bs L = (u, e3))) :
    (e1 ≠ 0 → e3 = e1) ∧ (e1 = 0 → e2 ≠ 0 → e3 = e2) ∧ (e1 = 0 → e2 = 0 → ¬ (v.1 = 1 ∧ y.1 = 1) → e3 = 3) ∧ (e1 = 0 → e2 = 0 → v.1 = 1 → y.1 = 1 → e3 = (N.doL k v.2.1 y.2.1).2 ∧ (e3 = 0 → u = (1, (N.doL k v.2.1 y.2.1).1, ⟨#[]⟩))) := by
  have h := eval_join (b := bs) (unhide HX) (unhide HY) (unhide HK)
  rw [unhide HL, unhide HT, unhide HV, unhide HU] at h
  simp only at h
  refine ⟨fun h1 => ?_, fun h1 h2 => ?_, fun h1 h2 h3 => ?_, fun h1 h2 h3 h4 => ?_⟩
  · rw [if_pos h1] at h; exact (Prod.mk.inj h).2
  · rw [if_neg (by simp [h1]), if_pos h2] at h; exact (Prod.mk.inj h).2
  · rw [if_neg (by simp [h1]), if_neg (by simp [h2]), if_neg h3] at h; exact (Prod.mk.inj h).2
  · rw [if_neg (by simp [h1]), if_neg (by simp [h2]), if_pos ⟨h3, h4⟩] at h
    split at h
    · rename_i h0
      have := Prod.mk.inj h
      exact ⟨by rw [this.2, h0], fun _ => this.1⟩
    · rename_i h0
      have := Prod.mk.inj h
      exact ⟨this.2, fun h5 => absurd (this.2.symm.trans h5) h0⟩
theorem do_b (k a b v e : Int) (w : World) (hr : Hid (N.doL k a b = (v, e))) :
    Calls Try.prog 26 #[.int .i64 k, .int .i64 a, .int .i64 b] w fun r w' => r = .returned (.tuple #[.int .i64 v, .int .i64 e]) ∧ Below w.heap.size w w' := by
  refine (N.do_any k a b v e w hr).mono ?_
  rintro r w' ⟨rfl, rfl⟩
  exact ⟨rfl, Below.refl _ _⟩

set_option maxHeartbeats 40000000 in
set_option maxRecDepth 100000 in
theorem parts_law (a1 : Option Addr) (l1 c1 : Nat) (xs : List Oo) (a2 : Option Addr) (l2 c2 : Nat) (ys : List Oo) (kd : Int) (am : Option Addr) (lm cm : Nat) (bs : List Bb) (w : World) (hx : LiesO w a1 l1 c1 xs) (hy : LiesO w a2 l2 c2 ys) (hz : Lies w am lm cm bs) :
    Calls Try.prog 4 #[.slice a1 l1 c1, .slice a2 l2 c2, .int .i64 kd, .slice am lm cm] w fun e w' => e = .returned (.bool true) ∧ Below w.heap.size w w' := by
  have hm1 := oheavy_any a1 l1 c1 xs w hx.row hx.le hx.ge
  go_enter Try.func4, Try.ntmps4
  go_wp2_with fail
  refine hm1.mono ?_
  rintro e w1 ⟨rfl | ⟨rfl, h40, hLx⟩, hb1⟩
  · clear hm1
    go_wp2_with fail
    go_ret
    exact ⟨rfl, hb1⟩
  have hy1 := hy.on hb1
  have hm2 := oheavy_any a2 l2 c2 ys w1 hy1.row hy1.le hy1.ge
  clear hm1 hy1
  go_wp2_with fail
  refine hm2.mono ?_
  rintro e w2 ⟨rfl | ⟨rfl, h41, hLy⟩, hb2⟩
  · have hw2 := bt hb1 hb2
    clear hm2
    go_wp2_with fail
    go_ret
    exact ⟨rfl, hw2⟩
  have hw2 := bt hb1 hb2
  have hz2 := hz.on hw2
  have hm3 := heavy_any am lm cm bs w2 hz2.row hz2.le hz2.ge
  clear hm2 hz2 hb1 hb2
  go_wp2_with fail
  refine hm3.mono ?_
  rintro e w3 ⟨rfl | ⟨rfl, h110, hLb⟩, hb3⟩
  · have hw3 := bt hw2 hb3
    clear hm3
    go_wp2_with fail
    go_ret
    exact ⟨rfl, hw3⟩
  have hw3 := bt hw2 hb3
  have HLx := hide hLx
  have HLy := hide hLy
  have HLb := hide hLb
  clear hm3 hw2 hb3 hLx hLy hLb
  by_cases h15 : 15 ≤ l1 + l2
  · have d1 : decide ((15 : Int) ≤ (l1 : Int) + (l2 : Int)) = true := decide_eq_true (by omega)
    have e1 : IntKind.i64.wrap ((l1 : Int) + (l2 : Int)) = (l1 : Int) + (l2 : Int) := by simp [IntKind.wrap, IntKind.bits, IntKind.signed]; omega
    have e2 : wrap64 ((l1 : Int) + (l2 : Int)) = (l1 : Int) + (l2 : Int) := by simp [wrap64]; omega
    clear h15
    go_wp2_with fail
    go_ret
    exact ⟨rfl, hw3⟩
  have d1 : decide ((15 : Int) ≤ (l1 : Int) + (l2 : Int)) = false := decide_eq_false (by omega)
  have e1 : IntKind.i64.wrap ((l1 : Int) + (l2 : Int)) = (l1 : Int) + (l2 : Int) := by simp [IntKind.wrap, IntKind.bits, IntKind.signed]; omega
  have e2 : wrap64 ((l1 : Int) + (l2 : Int)) = (l1 : Int) + (l2 : Int) := by simp [wrap64]; omega
  have H15 := hide (show l1 + l2 < 15 by omega)
  clear h15
  have hx3 := hx.on hw3
  obtain ⟨q, hq⟩ : ∃ q, exprB xs = q := ⟨_, rfl⟩
  have F := refExpr_any a1 l1 c1 xs w3 hx3.row hx3.le hx3.ge (unhide HLx)
  rw [hq] at F
  go_wp2_with fail
  refine F.mono ?_
  rintro e w4 ⟨rfl, hb4⟩
  have hw4 := bt hw3 hb4
  clear F hx3 hw3 hb4 d1 e1 e2
  cases q with
  | false =>
    go_wp2_with fail
    go_ret
    exact ⟨rfl, hw4⟩
  | true =>
  have HX := hide hq
  clear hq
  have hy4 := hy.on hw4
  obtain ⟨q, hq⟩ : ∃ q, exprB ys = q := ⟨_, rfl⟩
  have F := refExpr_any a2 l2 c2 ys w4 hy4.row hy4.le hy4.ge (unhide HLy)
  rw [hq] at F
  go_wp2_with fail
  refine F.mono ?_
  rintro e w5 ⟨rfl, hb5⟩
  have hw5 := bt hw4 hb5
  clear F hy4 hw4 hb5
  cases q with
  | false =>
    go_wp2_with fail
    go_ret
    exact ⟨rfl, hw5⟩
  | true =>
  have HY := hide hq
  clear hq
  have hz5 := hz.on hw5
  obtain ⟨q, hq⟩ : ∃ q, listB bs = q := ⟨_, rfl⟩
  have F := refBinds_any am lm cm bs w5 hz5.row hz5.le hz5.ge (unhide HLb)
  rw [hq] at F
  go_wp2_with fail
  refine F.mono ?_
  rintro e w6 ⟨rfl, hb6⟩
  have hw6 := bt hw5 hb6
  clear F hz5 hw5 hb6
  cases q with
  | false =>
    go_wp2_with fail
    go_ret
    exact ⟨rfl, hw6⟩
  | true =>
  have HB := hide hq
  clear hq
  go_wp2_with fail
  --TAIL
  obtain ⟨k, hk, h345⟩ := kind_of kd
  rw [hk]
  have HK := hide h345
  clear hk h345
  obtain ⟨i0, hi, hz0, hz1, hz2⟩ := info_parts infoO
  refine (twinO_any a1 l1 c1 xs w6 (hx.on hw6) (by omega)).mono ?_
  rintro e w7 ⟨qi, ci, rfl, hI, hb7⟩
  have hw7 := bt hw6 hb7
  have hy7 := hy.on hw7
  have hyl : ys.length ≤ l2 := hy.ge
  obtain ⟨b, o, ha, -⟩ := hy7.row.up (show 0 < ys.length by have := (expr_iff.1 (unhide HY)).1.1; omega)
  subst ha
  have hcs := hide (rowO_cells hy7.row)
  have hfl := hide (flatO_len ys)
  have hln := hide hy.len
  clear hy7 hyl
  go_wp2_with (at_builtin; refine wpList_append_own_wide _ rfl _ _ 22 rfl w6.heap.size 44 i0 (.agg #[.int .i64 0, .string ⟨#[]⟩, .int .i64 0, .int .i64 0, .string ⟨#[]⟩]) 5 56 Try.underlying22 hi hz0 hz1 hz2 rfl (by decide) _ l1 (flatO xs) rfl hI ⟨b, o, none⟩ l2 c2 (flatO ys) rfl ?c0 ?c1 ?c2 ?c3 ?c4 ?c5 ?_)
  case c0 => rw [unhide hfl, unhide hln]
  case c1 => exact unhide hcs
  case c2 => exact flatO_oneCell ys
  case c3 => unfold maxLen; omega
  case c4 => omega
  case c5 => exact hb7.size
  intro v' w8 hown8 hgrow hnil8
  obtain ⟨q8, c8, rfl⟩ := own_slice hown8
  have hb8 := hb7.grown hgrow hb7.size (fun m hm => (hI.lt m hm).1)
  rw [← Ex.flatO_app] at hown8
  clear hgrow hnil8 hcs hfl hI hb7 hw7
  have hbo : Below w6.heap.size w8 (w8.alloc (bxO (k, ⟨#[]⟩, zeroV))) := (Below.refl _ _).alloc hb8.size _
  have hb9 := hb8.trans hbo
  have hown9 := hown8.alloc (bxO (k, ⟨#[]⟩, zeroV))
  have hcv := hide (cells_o (heap_alloc_new w8 (bxO (k, ⟨#[]⟩, zeroV))))
  go_wp2_with (at_builtin; refine wpList_append_own_wide _ rfl _ _ 22 rfl w6.heap.size 44 i0 (.agg #[.int .i64 0, .string ⟨#[]⟩, .int .i64 0, .int .i64 0, .string ⟨#[]⟩]) 5 56 Try.underlying22 hi hz0 hz1 hz2 rfl (by decide) _ (l1 + l2) (flatO (xs ++ ys)) rfl hown9 ⟨w8.heap.size, 0, none⟩ 1 1 (flatO [(k, ⟨#[]⟩, zeroV)]) rfl ?c0 ?c1 ?c2 ?c3 ?c4 ?c5 ?_)
  case c0 => rfl
  case c1 => exact unhide hcv
  case c2 => exact flatO_oneCell [(k, ⟨#[]⟩, zeroV)]
  case c3 => unfold maxLen; omega
  case c4 => omega
  case c5 => exact hb9.size
  intro v' wa howna hgrow hnila
  obtain ⟨qa, ca, rfl⟩ := own_slice howna
  have hba := hb9.grown hgrow hb9.size (fun m hm => (hown9.lt m hm).1)
  rw [← Ex.flatO_app] at howna
  have hL := liesO_own howna
  clear hgrow hnila hcv hown9 howna hb9 hbo hb8 hown8
  have hwa := bt hw6 hba
  generalize hLe : xs ++ ys ++ [(k, (⟨#[]⟩ : ByteArray), zeroV)] = L at hL
  obtain ⟨m, hm⟩ : ∃ m, l1 + l2 = m + 1 := ⟨l1 + l2 - 1, by have := (expr_iff.1 (unhide HX)).1.1; have := hx.len; omega⟩
  rw [hm] at hL
  rw [hm]
  have HM := hide hm
  have HLe := hide hLe
  have HLL : Hid (∀ x ∈ L, LtO x) := hide (by
    rw [← hLe]
    intro t ht
    simp only [List.mem_append, List.mem_singleton] at ht
    rcases ht with (ht | ht) | rfl
    · exact unhide HLx t ht
    · exact unhide HLy t ht
    · exact ⟨Nat.zero_le _, Nat.zero_le _⟩)
  have HXL : Hid (exprB L = true) := hide (by
    rw [← hLe]
    exact expr_join (unhide HX) (unhide HY) (by rw [← hx.len, ← unhide hln]; exact unhide H15) (right_add (unhide HK)) (push_add (unhide HK)))
  clear hm hLe hba hw6
  obtain ⟨⟨v, e1⟩, hv⟩ : ∃ r, evalL bs xs = r := ⟨_, rfl⟩
  obtain ⟨⟨y, e2⟩, hu⟩ : ∃ r, evalL bs ys = r := ⟨_, rfl⟩
  obtain ⟨⟨u, e3⟩, ht⟩ : ∃ r, evalL bs L = r := ⟨_, rfl⟩
  have HV := hide hv
  have HU := hide hu
  have HT := hide ht
  clear hv hu ht
  go_wp2_with fail
  refine (eval_any a1 l1 c1 xs am lm cm bs v e1 wa (hx.on hwa) (unhide HLx) (by omega) (hz.on hwa) (unhide HLb) (hide ((evalR_yes (unhide HX) (unhide HB)).trans (unhide HV)))).mono ?_
  rintro e wb ⟨rfl, hbb⟩
  have hbx : Below wb.heap.size wb (wb.alloc (bxV v)) := (Below.refl _ _).alloc (Nat.le_refl _) _
  have hwb := bt (bt hwa hbb) hbx
  have hLb := (hL.on hbb).on hbx
  obtain ⟨x0, x1, x2⟩ := trip_of (heap_alloc_new wb (bxV v))
  clear hL hbb hbx hwa
  go_wp2_with fail
  generalize wb.alloc (bxV v) = W1 at hwb hLb x0 x1 x2
  generalize wb.heap.size = b1 at x0 x1 x2
  refine (eval_any (some ⟨b, o, none⟩) l2 c2 ys am lm cm bs y e2 W1 (hy.on hwb) (unhide HLy) (by omega) (hz.on hwb) (unhide HLb) (hide ((evalR_yes (unhide HY) (unhide HB)).trans (unhide HU)))).mono ?_
  rintro e wc ⟨rfl, hbc⟩
  have hbx : Below wc.heap.size wc (wc.alloc (bxV y)) := (Below.refl _ _).alloc (Nat.le_refl _) _
  have hwc := bt (bt hwb hbc) hbx
  have hLc := (hLb.on hbc).on hbx
  replace x0 := cell_on hbx (cell_on hbc x0)
  replace x1 := cell_on hbx (cell_on hbc x1)
  replace x2 := cell_on hbx (cell_on hbc x2)
  obtain ⟨y0, y1, y2⟩ := trip_of (heap_alloc_new wc (bxV y))
  clear hLb hbc hbx hwb
  go_wp2_with fail
  generalize wc.alloc (bxV y) = W2 at hwc hLc x0 x1 x2 y0 y1 y2
  generalize wc.heap.size = b2 at y0 y1 y2
  refine (eval_any qa (m + 1 + 1) ca L am lm cm bs u e3 W2 hLc (unhide HLL) (by have := unhide HM; omega) (hz.on hwc) (unhide HLb) (hide ((evalR_yes (unhide HXL) (unhide HB)).trans (unhide HT)))).mono ?_
  rintro e wd ⟨rfl, hbd⟩
  have hbx : Below wd.heap.size wd (wd.alloc (bxV u)) := (Below.refl _ _).alloc (Nat.le_refl _) _
  have hwd := bt (bt hwc hbd) hbx
  have hLd := (hLc.on hbd).on hbx
  replace x0 := cell_on hbx (cell_on hbd x0)
  replace x1 := cell_on hbx (cell_on hbd x1)
  replace x2 := cell_on hbx (cell_on hbd x2)
  replace y0 := cell_on hbx (cell_on hbd y0)
  replace y1 := cell_on hbx (cell_on hbd y1)
  replace y2 := cell_on hbx (cell_on hbd y2)
  obtain ⟨z0, z1, z2⟩ := trip_of (heap_alloc_new wd (bxV u))
  clear hLc hbd hbx hwc
  go_wp2_with fail
  generalize wd.alloc (bxV u) = W3 at hwd hLd x0 x1 x2 y0 y1 y2 z0 z1 z2
  generalize wd.heap.size = b3 at z0 z1 z2
  refine (echeck_k qa (m + 1 + 1) ca L 0 W3 hLd (unhide HLL) (by have := unhide HM; omega) (hide (chk_t (unhide HXL)))).mono ?_
  rintro e we ⟨rfl, hbe, -⟩
  have hwe := bt hwd hbe
  have hLe := hLd.on hbe
  replace x0 := cell_on hbe x0
  replace x1 := cell_on hbe x1
  replace x2 := cell_on hbe x2
  replace y0 := cell_on hbe y0
  replace y1 := cell_on hbe y1
  replace y2 := cell_on hbe y2
  replace z0 := cell_on hbe z0
  replace z1 := cell_on hbe z1
  replace z2 := cell_on hbe z2
  clear hLd hbe hwd
  go_wp2_with fail
  have f1 : wrap64 ((m : Int) + 1) = (m : Int) + 1 := by have := unhide HM; simp [wrap64]; omega
  rw [f1]
  clear f1
  refine (part_any qa (m + 1 + 1) ca L ((m : Int) + 1) 0 we hLe (unhide HLL) (by have := unhide HM; omega) (hide (by have := part_last (unhide HXL) (e := m + 1) (by rw [← hLe.len]); simpa using this))).mono ?_
  rintro e wf ⟨rfl, hbf⟩
  have hwf := bt hwe hbf
  have hLf := hLe.on hbf
  replace x0 := cell_on hbf x0
  replace x1 := cell_on hbf x1
  replace x2 := cell_on hbf x2
  replace y0 := cell_on hbf y0
  replace y1 := cell_on hbf y1
  replace y2 := cell_on hbf y2
  replace z0 := cell_on hbf z0
  replace z1 := cell_on hbf z1
  replace z2 := cell_on hbf z2
  clear hLe hbf hwe
  have f1 : wrap64 ((m : Int) + 1 + 1 - 2) = (m : Int) := by have := unhide HM; simp [wrap64]; omega
  have f2 : ((l1 : Int) == (l1 : Int)) = true := beq_self_eq_true _
  go_wp2_with fail
  rw [f1]
  refine (part_any qa (m + 1 + 1) ca L (m : Int) (l1 : Int) wf hLf (unhide HLL) (by have := unhide HM; omega) (hide (part_mid HLe HX HY HXL HM hx.len (unhide hln)))).mono ?_
  rintro e wg ⟨rfl, hbg⟩
  have hwg := bt hwf hbg
  replace x0 := cell_on hbg x0
  replace x1 := cell_on hbg x1
  replace x2 := cell_on hbg x2
  replace y0 := cell_on hbg y0
  replace y1 := cell_on hbg y1
  replace y2 := cell_on hbg y2
  replace z0 := cell_on hbg z0
  replace z1 := cell_on hbg z1
  replace z2 := cell_on hbg z2
  clear hLf hbg hwf f1
  have HJ := hide (join_res HLe HX HY HK HV HU HT)
  by_cases c1 : e1 = 0
  · by_cases c2 : e2 = 0
    · subst c1 c2
      by_cases c3 : v.1 = 1 ∧ y.1 = 1
      · obtain ⟨c3, c4⟩ := c3
        obtain ⟨⟨n, h⟩, hd⟩ : ∃ r, N.doL k v.2.1 y.2.1 = r := ⟨_, rfl⟩
        have hj := (unhide HJ).2.2.2 rfl rfl c3 c4
        rw [hd] at hj
        obtain ⟨hj, hj2⟩ := hj
        simp only at hj hj2
        subst hj
        have HD := hide hd
        have HJ2 := hide hj2
        have d1 : (v.1 != 1) = false := by simp [c3]
        have d2 : (y.1 != 1) = false := by simp [c4]
        clear hd hj2 c3 c4
        go_wp2_with fail
        refine (do_b k v.2.1 y.2.1 n e3 wg HD).mono ?_
        rintro e wi ⟨rfl, hbi⟩
        have hwi := bt hwg hbi
        replace x0 := cell_on hbi x0
        replace x1 := cell_on hbi x1
        replace x2 := cell_on hbi x2
        replace y0 := cell_on hbi y0
        replace y1 := cell_on hbi y1
        replace y2 := cell_on hbi y2
        replace z0 := cell_on hbi z0
        replace z1 := cell_on hbi z1
        replace z2 := cell_on hbi z2
        clear hbi hwg d1 d2
        have g1 : (e3 == e3) = true := beq_self_eq_true _
        by_cases h0 : e3 = 0
        · have hu := (unhide HJ2) h0
          subst hu
          subst h0
          have g3 : (n == n) = true := beq_self_eq_true _
          go_wp2_with fail
          refine (wakes_any wi).mono ?_
          rintro e wh ⟨rfl, hbh⟩
          have hwh := bt hwi hbh
          clear hbh hwi x0 x1 x2 y0 y1 y2 z0 z1 z2 g1 g3
          go_wp2_with fail
          go_ret
          exact ⟨rfl, hwh⟩
        · have g2 : (e3 != 0) = true := by simp [h0]
          clear h0
          go_wp2_with fail
          refine (wakes_any wi).mono ?_
          rintro e wh ⟨rfl, hbh⟩
          have hwh := bt hwi hbh
          clear hbh hwi x0 x1 x2 y0 y1 y2 z0 z1 z2 g1 g2
          go_wp2_with fail
          go_ret
          exact ⟨rfl, hwh⟩
      · have hj := (unhide HJ).2.2.1 rfl rfl c3
        subst hj
        by_cases c4 : v.1 = 1
        · have d1 : (v.1 != 1) = false := by simp [c4]
          have d2 : (y.1 != 1) = true := by have : y.1 ≠ 1 := fun h => c3 ⟨c4, h⟩; simp [this]
          clear c3 c4
          go_wp2_with fail
          refine (wakes_any wg).mono ?_
          rintro e wh ⟨rfl, hbh⟩
          have hwh := bt hwg hbh
          clear hbh hwg x0 x1 x2 y0 y1 y2 z0 z1 z2 d1 d2
          go_wp2_with fail
          go_ret
          exact ⟨rfl, hwh⟩
        · have d1 : (v.1 != 1) = true := by simp [c4]
          clear c3 c4
          go_wp2_with fail
          refine (wakes_any wg).mono ?_
          rintro e wh ⟨rfl, hbh⟩
          have hwh := bt hwg hbh
          clear hbh hwg x0 x1 x2 y0 y1 y2 z0 z1 z2 d1
          go_wp2_with fail
          go_ret
          exact ⟨rfl, hwh⟩
    · subst c1
      have hj := (unhide HJ).2.1 rfl c2
      subst hj
      have g1 : (e3 == e3) = true := beq_self_eq_true _
      have g2 : (e3 != 0) = true := by simp [c2]
      clear c2
      go_wp2_with fail
      refine (wakes_any wg).mono ?_
      rintro e wh ⟨rfl, hbh⟩
      have hwh := bt hwg hbh
      clear hbh hwg x0 x1 x2 y0 y1 y2 z0 z1 z2 g1 g2
      go_wp2_with fail
      go_ret
      exact ⟨rfl, hwh⟩
  · have hj := (unhide HJ).1 c1
    subst hj
    have g1 : (e3 == e3) = true := beq_self_eq_true _
    have g2 : (e3 != 0) = true := by simp [c1]
    clear c1
    go_wp2_with fail
    refine (wakes_any wg).mono ?_
    rintro e wh ⟨rfl, hbh⟩
    have hwh := bt hwg hbh
    clear hbh hwg x0 x1 x2 y0 y1 y2 z0 z1 z2 g1 g2
    go_wp2_with fail
    go_ret
    exact ⟨rfl, hwh⟩
end Go.Proofs.Ytnomndpoklolfaa.Sb

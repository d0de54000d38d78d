/- The walk of constablelaw05.SubstExact: it answers true, whatever the lists, the name, the value. -/
import Derived.Test.YtmhpoommgdjbiaaSubN
namespace Go.Proofs.Ytmhpoommgdjbiaa
open Go.RowKit
open V

theorem take_un {xs ys : List Bb} {k : Nat} (hk : k < ys.length) : unL (unL xs (ys.take k)) [ys[k]] = unL xs (ys.take (k + 1)) := un_eq (rise_un _ _) (fun x => by
  rw [mem_un, mem_un, List.take_succ_eq_append_getElem hk, List.mem_append, or_assoc])
theorem take_list {xs ys : List Bb} (h : listB (unL xs ys) = true) (r : Nat) : listB (unL xs (ys.take r)) = true :=
  list_sub h (rise_un _ _) (fun _ hx => mem_un.2 ((mem_un.1 hx).imp id List.mem_of_mem_take))
theorem take_step {xs ys : List Bb} {k : Nat} (hk : k < ys.length) (hy : listB ys = true) (hz : listB (unL xs (ys.take k)) = true) :
    (bothR (unL xs (ys.take k)) [ys[k]] = (unL xs (ys.take (k + 1)), true) ∧ listB (unL xs (ys.take (k + 1))) = true) ∨ (bothR (unL xs (ys.take k)) [ys[k]] = ([], false) ∧ listB (unL xs ys) = false) := by
  cases h : listB (unL xs (ys.take (k + 1))) with
  | true =>
    left
    refine ⟨?_, rfl⟩
    rw [both_t hz (list_single (list_right hy (List.getElem_mem hk))) (by rw [take_un hk]; exact h), take_un hk]
  | false =>
    right
    refine ⟨both_f (fun ⟨_, _, h3⟩ => ?_), ?_⟩
    · rw [take_un hk, h] at h3; cases h3
    · cases h2 : listB (unL xs ys) with
      | false => rfl
      | true => rw [take_list h2 (k + 1)] at h; cases h
theorem lt_take {ys : List Bb} (hy : ∀ x ∈ ys, Lt x) (r : Nat) : ∀ x ∈ ys.take r, Lt x := fun x h => hy x (List.mem_of_mem_take h)
theorem both_no' {a b ws : List Bb} {ok : Bool} (h : bothR a b = (ws, ok)) (hn : ¬ (listB a = true ∧ listB b = true ∧ listB (unL a b) = true)) : ok = false ∧ ws = [] := by
  rw [both_f hn] at h
  simp only [Prod.mk.injEq] at h
  exact ⟨h.2.symm, h.1.symm⟩
theorem both_yes {a b ws : List Bb} {ok : Bool} (h : bothR a b = (ws, ok)) (h1 : listB a = true) (h2 : listB b = true) (h3 : listB (unL a b) = true) : ok = true ∧ ws = unL a b := by
  rw [both_t h1 h2 h3] at h
  simp only [Prod.mk.injEq] at h
  exact ⟨h.2.symm, h.1.symm⟩
theorem single_right {x : Bb} (h : listB [x] = true) : rightBd x = true := list_right h (by simp)
/-- What Bind tells, with what stays of memory. -/
theorem refBind_k (a : Option Addr) (len cap : Nat) (xs us : List Bb) (x : Bb) (ok : Bool) (w : World) (hx : Lies w a len cap xs) (hL : ∀ x ∈ xs, Lt x) (lx : Lt x) (hs : listB xs = true) (hr : rightBd x = true) (H : Hid (bothR xs [x] = (us, ok))) :
    Calls Try.prog 19 #[.slice a len cap, .string x.1, .agg #[.int .i64 x.2.1, .int .i64 x.2.2.1, .string x.2.2.2]] w fun e w' => ∃ (q : Option Addr) (m c : Nat), e = .returned (.tuple #[.slice q m c, .bool ok]) ∧ (ok = true → Lies w' q m c us) ∧ Below w.heap.size w w' ∧ (∀ b o v, w.cell? ⟨b, o, none⟩ = some v → w'.cell? ⟨b, o, none⟩ = some v) := by
  refine (refBind_any a len cap xs us x.1 x.2 ok w hx hL lx.1 hs hr H).mono ?_
  rintro e w' ⟨q, m, c, rfl, h1, h2⟩
  exact ⟨q, m, c, rfl, h1, h2, fun b o v h => cell_on h2 h⟩
/-- How far the second list has gone in: all right so far, or the two are none together. -/
def Far (xs ys : List Bb) (ok : Bool) (k : Nat) (q : Bool) : Prop :=
  (q = true → listB xs = true ∧ listB ys = true ∧ listB (unL xs (ys.take k)) = true) ∧ (q = false → ok = false)

set_option maxHeartbeats 40000000 in
set_option maxRecDepth 100000 in
theorem exact_law (al am : Option Addr) (ll cl lm cm : Nat) (xs ys : List Bb) (nm : ByteArray) (v : Vv) (w : World) (hx : Lies w al ll cl xs) (hy : Lies w am lm cm ys) :
    Calls Try.prog 3 #[.slice al ll cl, .slice am lm cm, .string nm, .agg #[.int .i64 v.1, .int .i64 v.2.1, .string v.2.2]] w fun e w' => e = .returned (.bool true) ∧ Below w.heap.size w w' := by
  have hb0 : Below w.heap.size w (w.alloc (bxV v)) := (Below.refl _ _).alloc (Nat.le_refl _) _
  obtain ⟨a0, a1, a2⟩ := trip_of (heap_alloc_new w (bxV v))
  have hx0 := hx.on hb0
  have hm1 := heavy_any al ll cl xs _ hx0.row hx0.le hx0.ge
  go_enter Try.func3, Try.ntmps3
  go_wp2_with fail
  refine hm1.mono ?_
  rintro e w1 ⟨rfl | ⟨rfl, hl1, hLx⟩, hb1⟩
  · have hw1 := bt hb0 hb1
    clear hm1 hx0 a0 a1 a2
    go_wp2_with fail
    go_ret
    exact ⟨rfl, hw1⟩
  have hw1 := bt hb0 hb1
  replace a0 := cell_on hb1 a0
  replace a1 := cell_on hb1 a1
  replace a2 := cell_on hb1 a2
  have hy1 := hy.on hw1
  have hm2 := heavy_any am lm cm ys _ hy1.row hy1.le hy1.ge
  clear hm1 hx0 hb0 hb1 hy1
  go_wp2_with fail
  refine hm2.mono ?_
  rintro e w2 ⟨rfl | ⟨rfl, hl2, hLy⟩, hb2⟩
  · have hw2 := bt hw1 hb2
    clear hm2 a0 a1 a2
    go_wp2_with fail
    go_ret
    exact ⟨rfl, hw2⟩
  have hw2 := bt hw1 hb2
  replace a0 := cell_on hb2 a0
  replace a1 := cell_on hb2 a1
  replace a2 := cell_on hb2 a2
  clear hm2 hb2 hw1
  by_cases h1 : 200 < nm.size
  · have d1 := size_t h1
    clear h1
    go_wp2_with fail
    go_ret
    exact ⟨rfl, hw2⟩
  have d1 := size_f h1
  by_cases h2 : 200 < v.2.2.size
  · have d2 := size_t h2
    clear h1 h2
    go_wp2_with fail
    go_ret
    exact ⟨rfl, hw2⟩
  have d2 := size_f h2
  replace h1 : nm.size ≤ 200 := by omega
  replace h2 : v.2.2.size ≤ 200 := by omega
  have HH := hide (And.intro h1 h2)
  clear h1 h2
  have hc3 := twin_any al ll cl xs w2 (hx.on hw2) (by omega)
  go_wp2_with fail
  refine hc3.mono ?_
  rintro e w3 ⟨qi, ni, ci, rfl, I3, hb3⟩
  have hw3 := bt hw2 hb3
  have hni : ni ≤ 110 := by rw [I3.len, ← hx.len]; exact hl1
  replace a0 := cell_on hb3 a0
  replace a1 := cell_on hb3 a1
  replace a2 := cell_on hb3 a2
  clear d1 d2 hc3 hb3 hw2
  obtain ⟨⟨gv, gq⟩, hg⟩ : ∃ r, getR xs nm = r := ⟨_, rfl⟩
  have HG := hide hg
  clear hg
  have hc4 := get_any qi ni ci xs nm gv gq w3 I3.row I3.le I3.ge (by omega) hLx HG
  go_wp2_with fail
  refine hc4.mono ?_
  rintro e w4 ⟨rfl, hb4⟩
  have hbx : Below w4.heap.size w4 (w4.alloc (bxV gv)) := (Below.refl _ _).alloc (Nat.le_refl _) _
  have hw4 := bt (bt hw3 hb4) hbx
  have I4 := (I3.on hb4).on hbx
  replace a0 := cell_on hbx (cell_on hb4 a0)
  replace a1 := cell_on hbx (cell_on hb4 a1)
  replace a2 := cell_on hbx (cell_on hb4 a2)
  obtain ⟨x0, x1, x2⟩ := trip_of (heap_alloc_new w4 (bxV gv))
  have hx4 := hx.on hw4
  have hc5 := refGet_any al ll cl xs nm gv gq _ hx4.row hx4.le hx4.ge (by omega) HG
  clear hc4 hb4 hbx hw3 I3 hx4
  go_wp2_with fail
  refine hc5.mono ?_
  rintro e w5 ⟨rfl, hb5⟩
  have hby : Below w5.heap.size w5 (w5.alloc (bxV gv)) := (Below.refl _ _).alloc (Nat.le_refl _) _
  have hw5 := bt (bt hw4 hb5) hby
  have I5 := (I4.on hb5).on hby
  replace a0 := cell_on hby (cell_on hb5 a0)
  replace a1 := cell_on hby (cell_on hb5 a1)
  replace a2 := cell_on hby (cell_on hb5 a2)
  replace x0 := cell_on hby (cell_on hb5 x0)
  replace x1 := cell_on hby (cell_on hb5 x1)
  replace x2 := cell_on hby (cell_on hb5 x2)
  obtain ⟨y0, y1, y2⟩ := trip_of (heap_alloc_new w5 (bxV gv))
  obtain ⟨⟨us, ok1⟩, hu⟩ : ∃ r, bothR xs [(nm, v)] = r := ⟨_, rfl⟩
  have HU := hide hu
  clear hu
  have hc6 := put_any qi ni ci xs us nm v ok1 _ I5 (by omega) hLx (unhide HH).1 (unhide HH).2 HU
  clear hc5 hb5 hby hw4 I4
  go_wp2_with fail
  refine hc6.mono ?_
  rintro e w6 ⟨qp, np, cp, rfl, P6, hb6⟩
  have hw6 := bt hw5 hb6
  have I6 := I5.on hb6
  replace a0 := cell_on hb6 a0
  replace a1 := cell_on hb6 a1
  replace a2 := cell_on hb6 a2
  replace x0 := cell_on hb6 x0
  replace x1 := cell_on hb6 x1
  replace x2 := cell_on hb6 x2
  replace y0 := cell_on hb6 y0
  replace y1 := cell_on hb6 y1
  replace y2 := cell_on hb6 y2
  obtain ⟨⟨ws, ok2⟩, hwo⟩ : ∃ r, bothR xs ys = r := ⟨_, rfl⟩
  have HW := hide hwo
  clear hwo
  have hc7 := both_any qi am ni ci lm cm xs ys ws ok2 w6 I6 (hy.on hw6) (by omega) (by omega) hLx hLy HW
  clear hc6 hb6 hw5 I5
  go_wp2_with fail
  refine hc7.mono ?_
  rintro e w7 ⟨qb, nb, cb, rfl, B7, hb7⟩
  have hw7 := bt hw6 hb7
  have I7 := I6.on hb7
  have P7 := P6.on hb7
  replace a0 := cell_on hb7 a0
  replace a1 := cell_on hb7 a1
  replace a2 := cell_on hb7 a2
  replace x0 := cell_on hb7 x0
  replace x1 := cell_on hb7 x1
  replace x2 := cell_on hb7 x2
  replace y0 := cell_on hb7 y0
  replace y1 := cell_on hb7 y1
  replace y2 := cell_on hb7 y2
  clear hc7 hb7 hw6 I6 P6 HG
  obtain ⟨vq, hvq⟩ : ∃ q, varB nm.data.toList = q := ⟨_, rfl⟩
  have HV := hide hvq
  clear hvq
  go_wp2_with fail
  refine (var_q nm vq w7 (unhide HH).1 HV).mono ?_
  rintro e w8 ⟨rfl, hb8⟩
  have hw8 := bt hw7 hb8
  have I8 := I7.on hb8
  have P8 := P7.on hb8
  have B8 := B7.on hb8
  replace a0 := cell_on hb8 a0
  replace a1 := cell_on hb8 a1
  replace a2 := cell_on hb8 a2
  replace x0 := cell_on hb8 x0
  replace x1 := cell_on hb8 x1
  replace x2 := cell_on hb8 x2
  replace y0 := cell_on hb8 y0
  replace y1 := cell_on hb8 y1
  replace y2 := cell_on hb8 y2
  clear hb8 hw7 I7 P7 B7
  go_wp2_with fail
  refine (refVar_q nm vq w8 (unhide HH).1 HV).mono ?_
  rintro e w9 ⟨rfl, hb9⟩
  have hw9 := bt hw8 hb9
  have I9 := I8.on hb9
  have P9 := P8.on hb9
  have B9 := B8.on hb9
  replace a0 := cell_on hb9 a0
  replace a1 := cell_on hb9 a1
  replace a2 := cell_on hb9 a2
  replace x0 := cell_on hb9 x0
  replace x1 := cell_on hb9 x1
  replace x2 := cell_on hb9 x2
  replace y0 := cell_on hb9 y0
  replace y1 := cell_on hb9 y1
  replace y2 := cell_on hb9 y2
  clear hb9 hw8 I8 P8 B8
  have hbo1 : (vq != vq) = false := by simp
  have hbo2 : (gq != gq) = false := by simp
  have hE := eqV0 gv gv
  rw [decide_eq_true rfl] at hE
  have hc10 := keep_t qi al ni ci ll cl xs xs w9 I9 (hx.on hw9) (by omega) rfl
  go_wp2_with fail
  refine hc10.mono ?_
  rintro e w10 ⟨rfl, hb10⟩
  have hw10 := bt hw9 hb10
  have I10 := I9.on hb10
  have P10 := P9.on hb10
  have B10 := B9.on hb10
  replace a0 := cell_on hb10 a0
  replace a1 := cell_on hb10 a1
  replace a2 := cell_on hb10 a2
  clear hc10 hb10 hw9 I9 P9 B9 hbo1 hbo2 hE x0 x1 x2 y0 y1 y2
  have hx10 := hx.on hw10
  have hc11 := refBinds_any al ll cl xs w10 hx10.row hx10.le hx10.ge hLx
  clear hx10
  cases hR : listB xs with
  | false =>
    rw [hR] at hc11
    have hk1 : ok1 = false ∧ us = [] := both_no' (unhide HU) (fun h => by rw [hR] at h; cases h.1)
    have hk2 : ok2 = false := (both_no' (unhide HW) (fun h => by rw [hR] at h; cases h.1)).1
    obtain ⟨ho1, hus⟩ := hk1
    subst ho1 hus
    obtain rfl : np = 0 := P10.len
    have HK2 := hide hk2
    have HRR := hide hR
    clear hk2 hR
    go_wp2_with fail
    refine hc11.mono ?_
    rintro e w11 ⟨rfl, hb11⟩
    have hw11 := bt hw10 hb11
    have I11 := I10.on hb11
    have B11 := B10.on hb11
    have hc12 := scheck_x qi ni ci xs 1 w11 I11 hLx (hide (chk_f (unhide HRR)))
    clear hc11 hb11 hw10 I10 B10 P10 a0 a1 a2
    go_wp2_with fail
    refine hc12.mono ?_
    rintro e w12 ⟨rfl, hb12⟩
    have hw12 := bt hw11 hb12
    have I12 := I11.on hb12
    have B12 := B11.on hb12
    have hc13 := scheck_x qi ni ci xs 1 w12 I12 hLx (hide (chk_f (unhide HRR)))
    clear hc12 hb12 hw11 I11 B11
    go_wp2_with fail
    refine hc13.mono ?_
    rintro e w13 ⟨rfl, hb13⟩
    have hw13 := bt hw12 hb13
    have B13 := B12.on hb13
    clear hc13 hb13 hw12 I12 B12
    go_wp2_with fail
    have hlm1 : lm ≤ ys.length := hy.le
    have hlm2 : ys.length ≤ lm := hy.ge
    go_loopw [19, 20, 21] (fun o q i wr => ∃ (k n c : Nat) (qa : Option Addr) (bq : Bool), k ≤ lm ∧ i = .int .i64 k ∧ q = .bool bq ∧ o = .slice qa n c ∧ Hid (Far xs ys ok2 k bq) ∧ Hid (bq = true → Lies wr qa n c (unL xs (ys.take k))) ∧ Below w13.heap.size w13 wr) (fun _ _ i _ => lm - (intOf i).toNat)
    case atStart => exact ⟨0, ll, cl, al, false, Nat.zero_le _, rfl, rfl, rfl, hide ⟨(fun h => by cases h), fun _ => unhide HK2⟩, hide (fun h => by cases h), Below.refl _ _⟩
    case round =>
      obtain ⟨k, n, c, qa, bq, hk, rfl, rfl, rfl, HF, Wt, hbw⟩ := hrel
      have hww := bt hw13 hbw
      have B := B13.on hbw
      cases bq with
      | false =>
        have hno := both_no' (unhide HW) (fun ⟨h1, h2, h3⟩ => by
          have h4 := (unhide HF).2 rfl
          have h5 := (both_yes (unhide HW) h1 h2 h3).1
          rw [h4] at h5; cases h5)
        by_cases hlt : k < lm
        · have d0 : decide ((k : Int) < (lm : Int)) = true := decide_eq_true (by omega)
          obtain ⟨ho, hws⟩ := hno
          subst ho hws
          obtain rfl : nb = 0 := B.len
          clear B Wt
          go_wp2_with fail
          refine (wakes_any wr).mono ?_
          rintro e w20 ⟨rfl, hb20⟩
          have hw20 := bt hww hb20
          clear hb20
          go_wp2_with fail
          go_ret
          exact ⟨rfl, hw20⟩
        · have d0 : decide ((k : Int) < (lm : Int)) = false := decide_eq_false (by omega)
          obtain ⟨ho, hws⟩ := hno
          subst ho hws
          obtain rfl : nb = 0 := B.len
          clear B Wt
          go_wp2_with fail
          refine (wakes_any wr).mono ?_
          rintro e w20 ⟨rfl, hb20⟩
          have hw20 := bt hww hb20
          clear hb20
          go_wp2_with fail
          go_ret
          exact ⟨rfl, hw20⟩
      | true => exact absurd ((unhide HF).1 rfl).1 (by rw [unhide HRR]; simp)
  | true =>
    rw [hR] at hc11
    have HRR := hide hR
    clear hR
    go_wp2_with fail
    refine hc11.mono ?_
    rintro e w11 ⟨rfl, hb11⟩
    have hw11 := bt hw10 hb11
    have I11 := I10.on hb11
    have B11 := B10.on hb11
    have P11 := P10.on hb11
    replace a0 := cell_on hb11 a0
    replace a1 := cell_on hb11 a1
    replace a2 := cell_on hb11 a2
    have hc12 := scheck_x qi ni ci xs 0 w11 I11 hLx (hide (chk_t (unhide HRR)))
    clear hc11 hb11 hw10 I10 B10 P10
    go_wp2_with fail
    refine hc12.mono ?_
    rintro e w12 ⟨rfl, hb12⟩
    have hw12 := bt hw11 hb12
    have B12 := B11.on hb12
    have P12 := P11.on hb12
    replace a0 := cell_on hb12 a0
    replace a1 := cell_on hb12 a1
    replace a2 := cell_on hb12 a2
    clear hc12 hb12 hw11 I11 B11 P11
    go_wp2_with fail
    refine (refVar_q nm vq w12 (unhide HH).1 HV).mono ?_
    rintro e w13 ⟨rfl, hb13⟩
    have hw13 := bt hw12 hb13
    have B13 := B12.on hb13
    have P13 := P12.on hb13
    replace a0 := cell_on hb13 a0
    replace a1 := cell_on hb13 a1
    replace a2 := cell_on hb13 a2
    clear hb13 hw12 B12 P12
    cases vq with
    | false =>
      have HNR : Hid (rightBd (nm, v) = false) := hide (by rw [rightBd, show varB nm.data.toList = false from unhide HV]; rfl)
      have hk1 : ok1 = false ∧ us = [] := both_no' (unhide HU) (fun h => by have := single_right h.2.1; rw [unhide HNR] at this; cases this)
      obtain ⟨ho1, hus⟩ := hk1
      subst ho1 hus
      obtain rfl : np = 0 := P13.len
      clear P13 a0 a1 a2
      obtain ⟨yq, hyq⟩ : ∃ q, listB ys = q := ⟨_, rfl⟩
      have HYQ := hide hyq
      have hy13 := hy.on hw13
      have hc30 := refBinds_any am lm cm ys w13 hy13.row hy13.le hy13.ge hLy
      rw [hyq] at hc30
      clear hyq hy13
      go_wp2_with fail
      refine hc30.mono ?_
      rintro e w30 ⟨rfl, hb30⟩
      have hww30 := bt hw13 hb30
      have Bw30 := B13.on hb30
      clear hc30 hb30 hw13 B13
      go_wp2_with fail
      have hlm1 : lm ≤ ys.length := hy.le
      have hlm2 : ys.length ≤ lm := hy.ge
      go_loopw [19, 20, 21] (fun o q i wr => ∃ (k n c : Nat) (qa : Option Addr) (bq : Bool), k ≤ lm ∧ i = .int .i64 k ∧ q = .bool bq ∧ o = .slice qa n c ∧ Hid (Far xs ys ok2 k bq) ∧ Hid (bq = true → Lies wr qa n c (unL xs (ys.take k))) ∧ Below w30.heap.size w30 wr) (fun _ _ i _ => lm - (intOf i).toNat)
      case atStart => exact ⟨0, ll, cl, al, yq, Nat.zero_le _, rfl, rfl, rfl, hide ⟨fun h => ⟨unhide HRR, by rw [unhide HYQ, h], by rw [List.take_zero, un_nil (unhide HRR)]; exact unhide HRR⟩, fun h => (both_no' (unhide HW) (fun g => by rw [unhide HYQ, h] at g; cases g.2.1)).1⟩, hide (fun _ => by rw [List.take_zero, un_nil (unhide HRR)]; exact hx.on hww30), Below.refl _ _⟩
      case round =>
        obtain ⟨k, n, c, qa, bq, hk, rfl, rfl, rfl, HF, Wt, hbw⟩ := hrel
        have hww := bt hww30 hbw
        have B := Bw30.on hbw
        cases bq with
        | false =>
          have hno := both_no' (unhide HW) (fun ⟨h1, h2, h3⟩ => by
            have h4 := (unhide HF).2 rfl
            have h5 := (both_yes (unhide HW) h1 h2 h3).1
            rw [h4] at h5; cases h5)
          by_cases hlt : k < lm
          · have d0 : decide ((k : Int) < (lm : Int)) = true := decide_eq_true (by omega)
            obtain ⟨ho, hws⟩ := hno
            subst ho hws
            obtain rfl : nb = 0 := B.len
            clear B Wt
            go_wp2_with fail
            refine (wakes_any wr).mono ?_
            rintro e w20 ⟨rfl, hb20⟩
            have hw20 := bt hww hb20
            clear hb20
            go_wp2_with fail
            go_ret
            exact ⟨rfl, hw20⟩
          · have d0 : decide ((k : Int) < (lm : Int)) = false := decide_eq_false (by omega)
            obtain ⟨ho, hws⟩ := hno
            subst ho hws
            obtain rfl : nb = 0 := B.len
            clear B Wt
            go_wp2_with fail
            refine (wakes_any wr).mono ?_
            rintro e w20 ⟨rfl, hb20⟩
            have hw20 := bt hww hb20
            clear hb20
            go_wp2_with fail
            go_ret
            exact ⟨rfl, hw20⟩
        | true =>
          obtain ⟨f1, f2, f3⟩ := (unhide HF).1 rfl
          have Z := unhide Wt rfl
          clear Wt
          by_cases hlt : k < lm
          · have hky : k < ys.length := by omega
            obtain ⟨b, o, ha, hbl, c0, c1, c2, c3⟩ := (hy.on hww).row.up hky
            subst ha
            have ly := hLy ys[k] (List.getElem_mem hky)
            have hry := list_right f2 (List.getElem_mem hky)
            have e2 : (k : Int) < (lm : Int) := by omega
            have e3 : (0 : Int) ≤ (k : Int) := by omega
            have d0 : decide ((k : Int) < (lm : Int)) = true := decide_eq_true e2
            have Zd := lies_drew Z
            have hLz := lt_un hLx (lt_take hLy k)
            rcases take_step hky f2 f3 with ⟨hst, hli⟩ | ⟨hst, hli⟩
            · have HST := hide hst
              have HF' : Hid (Far xs ys ok2 (k + 1) true) := hide ⟨fun _ => ⟨f1, f2, hli⟩, (fun h => by cases h)⟩
              have F3 := hide f3
              have HRY := hide hry
              clear hst hli f1 f2 f3 hry
              generalize ys[k] = x at c0 c1 c2 c3 ly HST HRY
              clear hky
              go_wp2_with fail
              go_region_held3 (fun w' => w'.cell? ⟨b, o + k * 4, none⟩ = some (.string x.1) ∧ w'.cell? ⟨b, o + k * 4 + 1, none⟩ = some (.int .i64 x.2.1) ∧ w'.cell? ⟨b, o + k * 4 + 2, none⟩ = some (.int .i64 x.2.2.1) ∧ w'.cell? ⟨b, o + k * 4 + 3, none⟩ = some (.string x.2.2.2)) (go_keep) (first | (go_at_call 19; refine (refBind_k qa n c (unL xs (ys.take k)) _ x true _ Zd hLz ly (unhide F3) (unhide HRY) HST).mono ?_; rintro e w17 ⟨q7, m7, c7, rfl, hl7, hb7, hk7⟩))
              have hbw7 : Below w30.heap.size w30 w17 := bt hbw.drew hb7
              have HL7 := hide hl7
              clear c0 c1 c2 c3 hk7 hb7 Z Zd hLz HST B hl7
              go_wp2_with fail
              go_roundw
              case rel => exact ⟨k + 1, m7, c7, q7, true, by omega, by go_num, rfl, rfl, HF', hide (fun _ => unhide HL7 trivial), hbw7⟩
              case measure => simp [intOf]; omega
            · have HST := hide hst
              have HF' : Hid (Far xs ys ok2 (k + 1) false) := hide ⟨(fun h => by cases h), fun _ => (both_no' (unhide HW) (fun h => by rw [hli] at h; cases h.2.2)).1⟩
              have F3 := hide f3
              have HRY := hide hry
              clear hst hli f1 f2 f3 hry
              generalize ys[k] = x at c0 c1 c2 c3 ly HST HRY
              clear hky
              go_wp2_with fail
              go_region_held3 (fun w' => w'.cell? ⟨b, o + k * 4, none⟩ = some (.string x.1) ∧ w'.cell? ⟨b, o + k * 4 + 1, none⟩ = some (.int .i64 x.2.1) ∧ w'.cell? ⟨b, o + k * 4 + 2, none⟩ = some (.int .i64 x.2.2.1) ∧ w'.cell? ⟨b, o + k * 4 + 3, none⟩ = some (.string x.2.2.2)) (go_keep) (first | (go_at_call 19; refine (refBind_k qa n c (unL xs (ys.take k)) _ x false _ Zd hLz ly (unhide F3) (unhide HRY) HST).mono ?_; rintro e w17 ⟨q7, m7, c7, rfl, hl7, hb7, hk7⟩))
              have hbw7 : Below w30.heap.size w30 w17 := bt hbw.drew hb7
              clear c0 c1 c2 c3 hk7 hb7 Z Zd hLz HST B hl7
              go_wp2_with fail
              go_roundw
              case rel => exact ⟨k + 1, m7, c7, q7, false, by omega, by go_num, rfl, rfl, HF', hide (fun h => by cases h), hbw7⟩
              case measure => simp [intOf]; omega
          · have d0 : decide ((k : Int) < (lm : Int)) = false := decide_eq_false (by omega)
            rw [List.take_of_length_le (by omega)] at f3 Z
            obtain ⟨ho, hws⟩ := both_yes (unhide HW) f1 f2 f3
            subst ho
            have hnb : nb ≤ 110 := by rw [B.len, hws]; have := list_len f3; omega
            have hc20 := keep_t qb qa nb cb n c ws (unL xs ys) wr B Z (by omega) hws
            clear f1 f2 f3 B Z hws
            go_wp2_with fail
            refine hc20.mono ?_
            rintro e w20 ⟨rfl, hb20⟩
            have hw20 := bt hww hb20
            clear hc20 hb20
            go_wp2_with fail
            refine (wakes_any w20).mono ?_
            rintro e w21 ⟨rfl, hb21⟩
            have hw21 := bt hw20 hb21
            clear hb21
            go_wp2_with fail
            go_ret
            exact ⟨rfl, hw21⟩
    | true =>
      obtain ⟨rq, hrq⟩ : ∃ q, rightVv v = q := ⟨_, rfl⟩
      have HRV := hide hrq
      clear hrq
      go_wp2_with fail
      refine (refVal_q v rq w13 (unhide HH).2 HRV).mono ?_
      rintro e w14 ⟨rfl, hb14⟩
      have hw14 := bt hw13 hb14
      have B14 := B13.on hb14
      have P14 := P13.on hb14
      replace a0 := cell_on hb14 a0
      replace a1 := cell_on hb14 a1
      replace a2 := cell_on hb14 a2
      clear hb14 hw13 B13 P13
      cases rq with
      | false =>
        have HNR : Hid (rightBd (nm, v) = false) := hide (by rw [rightBd, show rightVv v = false from unhide HRV]; simp)
        have hk1 : ok1 = false ∧ us = [] := both_no' (unhide HU) (fun h => by have := single_right h.2.1; rw [unhide HNR] at this; cases this)
        obtain ⟨ho1, hus⟩ := hk1
        subst ho1 hus
        obtain rfl : np = 0 := P14.len
        clear P14 a0 a1 a2
        obtain ⟨yq, hyq⟩ : ∃ q, listB ys = q := ⟨_, rfl⟩
        have HYQ := hide hyq
        have hy13 := hy.on hw14
        have hc30 := refBinds_any am lm cm ys w14 hy13.row hy13.le hy13.ge hLy
        rw [hyq] at hc30
        clear hyq hy13
        go_wp2_with fail
        refine hc30.mono ?_
        rintro e w30 ⟨rfl, hb30⟩
        have hww30 := bt hw14 hb30
        have Bw30 := B14.on hb30
        clear hc30 hb30 hw14 B14
        go_wp2_with fail
        have hlm1 : lm ≤ ys.length := hy.le
        have hlm2 : ys.length ≤ lm := hy.ge
        go_loopw [19, 20, 21] (fun o q i wr => ∃ (k n c : Nat) (qa : Option Addr) (bq : Bool), k ≤ lm ∧ i = .int .i64 k ∧ q = .bool bq ∧ o = .slice qa n c ∧ Hid (Far xs ys ok2 k bq) ∧ Hid (bq = true → Lies wr qa n c (unL xs (ys.take k))) ∧ Below w30.heap.size w30 wr) (fun _ _ i _ => lm - (intOf i).toNat)
        case atStart => exact ⟨0, ll, cl, al, yq, Nat.zero_le _, rfl, rfl, rfl, hide ⟨fun h => ⟨unhide HRR, by rw [unhide HYQ, h], by rw [List.take_zero, un_nil (unhide HRR)]; exact unhide HRR⟩, fun h => (both_no' (unhide HW) (fun g => by rw [unhide HYQ, h] at g; cases g.2.1)).1⟩, hide (fun _ => by rw [List.take_zero, un_nil (unhide HRR)]; exact hx.on hww30), Below.refl _ _⟩
        case round =>
          obtain ⟨k, n, c, qa, bq, hk, rfl, rfl, rfl, HF, Wt, hbw⟩ := hrel
          have hww := bt hww30 hbw
          have B := Bw30.on hbw
          cases bq with
          | false =>
            have hno := both_no' (unhide HW) (fun ⟨h1, h2, h3⟩ => by
              have h4 := (unhide HF).2 rfl
              have h5 := (both_yes (unhide HW) h1 h2 h3).1
              rw [h4] at h5; cases h5)
            by_cases hlt : k < lm
            · have d0 : decide ((k : Int) < (lm : Int)) = true := decide_eq_true (by omega)
              obtain ⟨ho, hws⟩ := hno
              subst ho hws
              obtain rfl : nb = 0 := B.len
              clear B Wt
              go_wp2_with fail
              refine (wakes_any wr).mono ?_
              rintro e w20 ⟨rfl, hb20⟩
              have hw20 := bt hww hb20
              clear hb20
              go_wp2_with fail
              go_ret
              exact ⟨rfl, hw20⟩
            · have d0 : decide ((k : Int) < (lm : Int)) = false := decide_eq_false (by omega)
              obtain ⟨ho, hws⟩ := hno
              subst ho hws
              obtain rfl : nb = 0 := B.len
              clear B Wt
              go_wp2_with fail
              refine (wakes_any wr).mono ?_
              rintro e w20 ⟨rfl, hb20⟩
              have hw20 := bt hww hb20
              clear hb20
              go_wp2_with fail
              go_ret
              exact ⟨rfl, hw20⟩
          | true =>
            obtain ⟨f1, f2, f3⟩ := (unhide HF).1 rfl
            have Z := unhide Wt rfl
            clear Wt
            by_cases hlt : k < lm
            · have hky : k < ys.length := by omega
              obtain ⟨b, o, ha, hbl, c0, c1, c2, c3⟩ := (hy.on hww).row.up hky
              subst ha
              have ly := hLy ys[k] (List.getElem_mem hky)
              have hry := list_right f2 (List.getElem_mem hky)
              have e2 : (k : Int) < (lm : Int) := by omega
              have e3 : (0 : Int) ≤ (k : Int) := by omega
              have d0 : decide ((k : Int) < (lm : Int)) = true := decide_eq_true e2
              have Zd := lies_drew Z
              have hLz := lt_un hLx (lt_take hLy k)
              rcases take_step hky f2 f3 with ⟨hst, hli⟩ | ⟨hst, hli⟩
              · have HST := hide hst
                have HF' : Hid (Far xs ys ok2 (k + 1) true) := hide ⟨fun _ => ⟨f1, f2, hli⟩, (fun h => by cases h)⟩
                have F3 := hide f3
                have HRY := hide hry
                clear hst hli f1 f2 f3 hry
                generalize ys[k] = x at c0 c1 c2 c3 ly HST HRY
                clear hky
                go_wp2_with fail
                go_region_held3 (fun w' => w'.cell? ⟨b, o + k * 4, none⟩ = some (.string x.1) ∧ w'.cell? ⟨b, o + k * 4 + 1, none⟩ = some (.int .i64 x.2.1) ∧ w'.cell? ⟨b, o + k * 4 + 2, none⟩ = some (.int .i64 x.2.2.1) ∧ w'.cell? ⟨b, o + k * 4 + 3, none⟩ = some (.string x.2.2.2)) (go_keep) (first | (go_at_call 19; refine (refBind_k qa n c (unL xs (ys.take k)) _ x true _ Zd hLz ly (unhide F3) (unhide HRY) HST).mono ?_; rintro e w17 ⟨q7, m7, c7, rfl, hl7, hb7, hk7⟩))
                have hbw7 : Below w30.heap.size w30 w17 := bt hbw.drew hb7
                have HL7 := hide hl7
                clear c0 c1 c2 c3 hk7 hb7 Z Zd hLz HST B hl7
                go_wp2_with fail
                go_roundw
                case rel => exact ⟨k + 1, m7, c7, q7, true, by omega, by go_num, rfl, rfl, HF', hide (fun _ => unhide HL7 trivial), hbw7⟩
                case measure => simp [intOf]; omega
              · have HST := hide hst
                have HF' : Hid (Far xs ys ok2 (k + 1) false) := hide ⟨(fun h => by cases h), fun _ => (both_no' (unhide HW) (fun h => by rw [hli] at h; cases h.2.2)).1⟩
                have F3 := hide f3
                have HRY := hide hry
                clear hst hli f1 f2 f3 hry
                generalize ys[k] = x at c0 c1 c2 c3 ly HST HRY
                clear hky
                go_wp2_with fail
                go_region_held3 (fun w' => w'.cell? ⟨b, o + k * 4, none⟩ = some (.string x.1) ∧ w'.cell? ⟨b, o + k * 4 + 1, none⟩ = some (.int .i64 x.2.1) ∧ w'.cell? ⟨b, o + k * 4 + 2, none⟩ = some (.int .i64 x.2.2.1) ∧ w'.cell? ⟨b, o + k * 4 + 3, none⟩ = some (.string x.2.2.2)) (go_keep) (first | (go_at_call 19; refine (refBind_k qa n c (unL xs (ys.take k)) _ x false _ Zd hLz ly (unhide F3) (unhide HRY) HST).mono ?_; rintro e w17 ⟨q7, m7, c7, rfl, hl7, hb7, hk7⟩))
                have hbw7 : Below w30.heap.size w30 w17 := bt hbw.drew hb7
                clear c0 c1 c2 c3 hk7 hb7 Z Zd hLz HST B hl7
                go_wp2_with fail
                go_roundw
                case rel => exact ⟨k + 1, m7, c7, q7, false, by omega, by go_num, rfl, rfl, HF', hide (fun h => by cases h), hbw7⟩
                case measure => simp [intOf]; omega
            · have d0 : decide ((k : Int) < (lm : Int)) = false := decide_eq_false (by omega)
              rw [List.take_of_length_le (by omega)] at f3 Z
              obtain ⟨ho, hws⟩ := both_yes (unhide HW) f1 f2 f3
              subst ho
              have hnb : nb ≤ 110 := by rw [B.len, hws]; have := list_len f3; omega
              have hc20 := keep_t qb qa nb cb n c ws (unL xs ys) wr B Z (by omega) hws
              clear f1 f2 f3 B Z hws
              go_wp2_with fail
              refine hc20.mono ?_
              rintro e w20 ⟨rfl, hb20⟩
              have hw20 := bt hww hb20
              clear hc20 hb20
              go_wp2_with fail
              refine (wakes_any w20).mono ?_
              rintro e w21 ⟨rfl, hb21⟩
              have hw21 := bt hw20 hb21
              clear hb21
              go_wp2_with fail
              go_ret
              exact ⟨rfl, hw21⟩
      | true =>
        have hrr : rightBd (nm, v) = true := by rw [rightBd, show varB nm.data.toList = true from unhide HV, show rightVv v = true from unhide HRV]; rfl
        have hc15 := refBind_any al ll cl xs us nm v ok1 w14 (hx.on hw14) hLx (unhide HH).1 (unhide HRR) hrr HU
        clear hrr
        go_wp2_with fail
        refine hc15.mono ?_
        rintro e w15 ⟨qw, nw, cw, rfl, hlw, hb15⟩
        have hw15 := bt hw14 hb15
        have B15 := B14.on hb15
        have P15 := P14.on hb15
        clear hc15 hb15 hw14 B14 P14 a0 a1 a2
        cases ok1 with
        | false =>
          have hus := both_no (unhide HU)
          subst hus
          obtain rfl : np = 0 := P15.len
          clear P15 hlw
          obtain ⟨yq, hyq⟩ : ∃ q, listB ys = q := ⟨_, rfl⟩
          have HYQ := hide hyq
          have hy13 := hy.on hw15
          have hc30 := refBinds_any am lm cm ys w15 hy13.row hy13.le hy13.ge hLy
          rw [hyq] at hc30
          clear hyq hy13
          go_wp2_with fail
          refine hc30.mono ?_
          rintro e w30 ⟨rfl, hb30⟩
          have hww30 := bt hw15 hb30
          have Bw30 := B15.on hb30
          clear hc30 hb30 hw15 B15
          go_wp2_with fail
          have hlm1 : lm ≤ ys.length := hy.le
          have hlm2 : ys.length ≤ lm := hy.ge
          go_loopw [19, 20, 21] (fun o q i wr => ∃ (k n c : Nat) (qa : Option Addr) (bq : Bool), k ≤ lm ∧ i = .int .i64 k ∧ q = .bool bq ∧ o = .slice qa n c ∧ Hid (Far xs ys ok2 k bq) ∧ Hid (bq = true → Lies wr qa n c (unL xs (ys.take k))) ∧ Below w30.heap.size w30 wr) (fun _ _ i _ => lm - (intOf i).toNat)
          case atStart => exact ⟨0, ll, cl, al, yq, Nat.zero_le _, rfl, rfl, rfl, hide ⟨fun h => ⟨unhide HRR, by rw [unhide HYQ, h], by rw [List.take_zero, un_nil (unhide HRR)]; exact unhide HRR⟩, fun h => (both_no' (unhide HW) (fun g => by rw [unhide HYQ, h] at g; cases g.2.1)).1⟩, hide (fun _ => by rw [List.take_zero, un_nil (unhide HRR)]; exact hx.on hww30), Below.refl _ _⟩
          case round =>
            obtain ⟨k, n, c, qa, bq, hk, rfl, rfl, rfl, HF, Wt, hbw⟩ := hrel
            have hww := bt hww30 hbw
            have B := Bw30.on hbw
            cases bq with
            | false =>
              have hno := both_no' (unhide HW) (fun ⟨h1, h2, h3⟩ => by
                have h4 := (unhide HF).2 rfl
                have h5 := (both_yes (unhide HW) h1 h2 h3).1
                rw [h4] at h5; cases h5)
              by_cases hlt : k < lm
              · have d0 : decide ((k : Int) < (lm : Int)) = true := decide_eq_true (by omega)
                obtain ⟨ho, hws⟩ := hno
                subst ho hws
                obtain rfl : nb = 0 := B.len
                clear B Wt
                go_wp2_with fail
                refine (wakes_any wr).mono ?_
                rintro e w20 ⟨rfl, hb20⟩
                have hw20 := bt hww hb20
                clear hb20
                go_wp2_with fail
                go_ret
                exact ⟨rfl, hw20⟩
              · have d0 : decide ((k : Int) < (lm : Int)) = false := decide_eq_false (by omega)
                obtain ⟨ho, hws⟩ := hno
                subst ho hws
                obtain rfl : nb = 0 := B.len
                clear B Wt
                go_wp2_with fail
                refine (wakes_any wr).mono ?_
                rintro e w20 ⟨rfl, hb20⟩
                have hw20 := bt hww hb20
                clear hb20
                go_wp2_with fail
                go_ret
                exact ⟨rfl, hw20⟩
            | true =>
              obtain ⟨f1, f2, f3⟩ := (unhide HF).1 rfl
              have Z := unhide Wt rfl
              clear Wt
              by_cases hlt : k < lm
              · have hky : k < ys.length := by omega
                obtain ⟨b, o, ha, hbl, c0, c1, c2, c3⟩ := (hy.on hww).row.up hky
                subst ha
                have ly := hLy ys[k] (List.getElem_mem hky)
                have hry := list_right f2 (List.getElem_mem hky)
                have e2 : (k : Int) < (lm : Int) := by omega
                have e3 : (0 : Int) ≤ (k : Int) := by omega
                have d0 : decide ((k : Int) < (lm : Int)) = true := decide_eq_true e2
                have Zd := lies_drew Z
                have hLz := lt_un hLx (lt_take hLy k)
                rcases take_step hky f2 f3 with ⟨hst, hli⟩ | ⟨hst, hli⟩
                · have HST := hide hst
                  have HF' : Hid (Far xs ys ok2 (k + 1) true) := hide ⟨fun _ => ⟨f1, f2, hli⟩, (fun h => by cases h)⟩
                  have F3 := hide f3
                  have HRY := hide hry
                  clear hst hli f1 f2 f3 hry
                  generalize ys[k] = x at c0 c1 c2 c3 ly HST HRY
                  clear hky
                  go_wp2_with fail
                  go_region_held3 (fun w' => w'.cell? ⟨b, o + k * 4, none⟩ = some (.string x.1) ∧ w'.cell? ⟨b, o + k * 4 + 1, none⟩ = some (.int .i64 x.2.1) ∧ w'.cell? ⟨b, o + k * 4 + 2, none⟩ = some (.int .i64 x.2.2.1) ∧ w'.cell? ⟨b, o + k * 4 + 3, none⟩ = some (.string x.2.2.2)) (go_keep) (first | (go_at_call 19; refine (refBind_k qa n c (unL xs (ys.take k)) _ x true _ Zd hLz ly (unhide F3) (unhide HRY) HST).mono ?_; rintro e w17 ⟨q7, m7, c7, rfl, hl7, hb7, hk7⟩))
                  have hbw7 : Below w30.heap.size w30 w17 := bt hbw.drew hb7
                  have HL7 := hide hl7
                  clear c0 c1 c2 c3 hk7 hb7 Z Zd hLz HST B hl7
                  go_wp2_with fail
                  go_roundw
                  case rel => exact ⟨k + 1, m7, c7, q7, true, by omega, by go_num, rfl, rfl, HF', hide (fun _ => unhide HL7 trivial), hbw7⟩
                  case measure => simp [intOf]; omega
                · have HST := hide hst
                  have HF' : Hid (Far xs ys ok2 (k + 1) false) := hide ⟨(fun h => by cases h), fun _ => (both_no' (unhide HW) (fun h => by rw [hli] at h; cases h.2.2)).1⟩
                  have F3 := hide f3
                  have HRY := hide hry
                  clear hst hli f1 f2 f3 hry
                  generalize ys[k] = x at c0 c1 c2 c3 ly HST HRY
                  clear hky
                  go_wp2_with fail
                  go_region_held3 (fun w' => w'.cell? ⟨b, o + k * 4, none⟩ = some (.string x.1) ∧ w'.cell? ⟨b, o + k * 4 + 1, none⟩ = some (.int .i64 x.2.1) ∧ w'.cell? ⟨b, o + k * 4 + 2, none⟩ = some (.int .i64 x.2.2.1) ∧ w'.cell? ⟨b, o + k * 4 + 3, none⟩ = some (.string x.2.2.2)) (go_keep) (first | (go_at_call 19; refine (refBind_k qa n c (unL xs (ys.take k)) _ x false _ Zd hLz ly (unhide F3) (unhide HRY) HST).mono ?_; rintro e w17 ⟨q7, m7, c7, rfl, hl7, hb7, hk7⟩))
                  have hbw7 : Below w30.heap.size w30 w17 := bt hbw.drew hb7
                  clear c0 c1 c2 c3 hk7 hb7 Z Zd hLz HST B hl7
                  go_wp2_with fail
                  go_roundw
                  case rel => exact ⟨k + 1, m7, c7, q7, false, by omega, by go_num, rfl, rfl, HF', hide (fun h => by cases h), hbw7⟩
                  case measure => simp [intOf]; omega
              · have d0 : decide ((k : Int) < (lm : Int)) = false := decide_eq_false (by omega)
                rw [List.take_of_length_le (by omega)] at f3 Z
                obtain ⟨ho, hws⟩ := both_yes (unhide HW) f1 f2 f3
                subst ho
                have hnb : nb ≤ 110 := by rw [B.len, hws]; have := list_len f3; omega
                have hc20 := keep_t qb qa nb cb n c ws (unL xs ys) wr B Z (by omega) hws
                clear f1 f2 f3 B Z hws
                go_wp2_with fail
                refine hc20.mono ?_
                rintro e w20 ⟨rfl, hb20⟩
                have hw20 := bt hww hb20
                clear hc20 hb20
                go_wp2_with fail
                refine (wakes_any w20).mono ?_
                rintro e w21 ⟨rfl, hb21⟩
                have hw21 := bt hw20 hb21
                clear hb21
                go_wp2_with fail
                go_ret
                exact ⟨rfl, hw21⟩
        | true =>
          have hlw' := hlw rfl
          have hnp : np ≤ 110 := by rw [P15.len]; have := list_len (both_list (unhide HU)); omega
          have hc16 := keep_t qp qw np cp nw cw us us w15 P15 hlw' (by omega) rfl
          clear hlw hlw' P15
          go_wp2_with fail
          refine hc16.mono ?_
          rintro e w16 ⟨rfl, hb16⟩
          have hw16 := bt hw15 hb16
          have B16 := B15.on hb16
          clear hc16 hb16 hw15 B15
          obtain ⟨yq, hyq⟩ : ∃ q, listB ys = q := ⟨_, rfl⟩
          have HYQ := hide hyq
          have hy13 := hy.on hw16
          have hc30 := refBinds_any am lm cm ys w16 hy13.row hy13.le hy13.ge hLy
          rw [hyq] at hc30
          clear hyq hy13
          go_wp2_with fail
          refine hc30.mono ?_
          rintro e w30 ⟨rfl, hb30⟩
          have hww30 := bt hw16 hb30
          have Bw30 := B16.on hb30
          clear hc30 hb30 hw16 B16
          go_wp2_with fail
          have hlm1 : lm ≤ ys.length := hy.le
          have hlm2 : ys.length ≤ lm := hy.ge
          go_loopw [19, 20, 21] (fun o q i wr => ∃ (k n c : Nat) (qa : Option Addr) (bq : Bool), k ≤ lm ∧ i = .int .i64 k ∧ q = .bool bq ∧ o = .slice qa n c ∧ Hid (Far xs ys ok2 k bq) ∧ Hid (bq = true → Lies wr qa n c (unL xs (ys.take k))) ∧ Below w30.heap.size w30 wr) (fun _ _ i _ => lm - (intOf i).toNat)
          case atStart => exact ⟨0, ll, cl, al, yq, Nat.zero_le _, rfl, rfl, rfl, hide ⟨fun h => ⟨unhide HRR, by rw [unhide HYQ, h], by rw [List.take_zero, un_nil (unhide HRR)]; exact unhide HRR⟩, fun h => (both_no' (unhide HW) (fun g => by rw [unhide HYQ, h] at g; cases g.2.1)).1⟩, hide (fun _ => by rw [List.take_zero, un_nil (unhide HRR)]; exact hx.on hww30), Below.refl _ _⟩
          case round =>
            obtain ⟨k, n, c, qa, bq, hk, rfl, rfl, rfl, HF, Wt, hbw⟩ := hrel
            have hww := bt hww30 hbw
            have B := Bw30.on hbw
            cases bq with
            | false =>
              have hno := both_no' (unhide HW) (fun ⟨h1, h2, h3⟩ => by
                have h4 := (unhide HF).2 rfl
                have h5 := (both_yes (unhide HW) h1 h2 h3).1
                rw [h4] at h5; cases h5)
              by_cases hlt : k < lm
              · have d0 : decide ((k : Int) < (lm : Int)) = true := decide_eq_true (by omega)
                obtain ⟨ho, hws⟩ := hno
                subst ho hws
                obtain rfl : nb = 0 := B.len
                clear B Wt
                go_wp2_with fail
                refine (wakes_any wr).mono ?_
                rintro e w20 ⟨rfl, hb20⟩
                have hw20 := bt hww hb20
                clear hb20
                go_wp2_with fail
                go_ret
                exact ⟨rfl, hw20⟩
              · have d0 : decide ((k : Int) < (lm : Int)) = false := decide_eq_false (by omega)
                obtain ⟨ho, hws⟩ := hno
                subst ho hws
                obtain rfl : nb = 0 := B.len
                clear B Wt
                go_wp2_with fail
                refine (wakes_any wr).mono ?_
                rintro e w20 ⟨rfl, hb20⟩
                have hw20 := bt hww hb20
                clear hb20
                go_wp2_with fail
                go_ret
                exact ⟨rfl, hw20⟩
            | true =>
              obtain ⟨f1, f2, f3⟩ := (unhide HF).1 rfl
              have Z := unhide Wt rfl
              clear Wt
              by_cases hlt : k < lm
              · have hky : k < ys.length := by omega
                obtain ⟨b, o, ha, hbl, c0, c1, c2, c3⟩ := (hy.on hww).row.up hky
                subst ha
                have ly := hLy ys[k] (List.getElem_mem hky)
                have hry := list_right f2 (List.getElem_mem hky)
                have e2 : (k : Int) < (lm : Int) := by omega
                have e3 : (0 : Int) ≤ (k : Int) := by omega
                have d0 : decide ((k : Int) < (lm : Int)) = true := decide_eq_true e2
                have Zd := lies_drew Z
                have hLz := lt_un hLx (lt_take hLy k)
                rcases take_step hky f2 f3 with ⟨hst, hli⟩ | ⟨hst, hli⟩
                · have HST := hide hst
                  have HF' : Hid (Far xs ys ok2 (k + 1) true) := hide ⟨fun _ => ⟨f1, f2, hli⟩, (fun h => by cases h)⟩
                  have F3 := hide f3
                  have HRY := hide hry
                  clear hst hli f1 f2 f3 hry
                  generalize ys[k] = x at c0 c1 c2 c3 ly HST HRY
                  clear hky
                  go_wp2_with fail
                  go_region_held3 (fun w' => w'.cell? ⟨b, o + k * 4, none⟩ = some (.string x.1) ∧ w'.cell? ⟨b, o + k * 4 + 1, none⟩ = some (.int .i64 x.2.1) ∧ w'.cell? ⟨b, o + k * 4 + 2, none⟩ = some (.int .i64 x.2.2.1) ∧ w'.cell? ⟨b, o + k * 4 + 3, none⟩ = some (.string x.2.2.2)) (go_keep) (first | (go_at_call 19; refine (refBind_k qa n c (unL xs (ys.take k)) _ x true _ Zd hLz ly (unhide F3) (unhide HRY) HST).mono ?_; rintro e w17 ⟨q7, m7, c7, rfl, hl7, hb7, hk7⟩))
                  have hbw7 : Below w30.heap.size w30 w17 := bt hbw.drew hb7
                  have HL7 := hide hl7
                  clear c0 c1 c2 c3 hk7 hb7 Z Zd hLz HST B hl7
                  go_wp2_with fail
                  go_roundw
                  case rel => exact ⟨k + 1, m7, c7, q7, true, by omega, by go_num, rfl, rfl, HF', hide (fun _ => unhide HL7 trivial), hbw7⟩
                  case measure => simp [intOf]; omega
                · have HST := hide hst
                  have HF' : Hid (Far xs ys ok2 (k + 1) false) := hide ⟨(fun h => by cases h), fun _ => (both_no' (unhide HW) (fun h => by rw [hli] at h; cases h.2.2)).1⟩
                  have F3 := hide f3
                  have HRY := hide hry
                  clear hst hli f1 f2 f3 hry
                  generalize ys[k] = x at c0 c1 c2 c3 ly HST HRY
                  clear hky
                  go_wp2_with fail
                  go_region_held3 (fun w' => w'.cell? ⟨b, o + k * 4, none⟩ = some (.string x.1) ∧ w'.cell? ⟨b, o + k * 4 + 1, none⟩ = some (.int .i64 x.2.1) ∧ w'.cell? ⟨b, o + k * 4 + 2, none⟩ = some (.int .i64 x.2.2.1) ∧ w'.cell? ⟨b, o + k * 4 + 3, none⟩ = some (.string x.2.2.2)) (go_keep) (first | (go_at_call 19; refine (refBind_k qa n c (unL xs (ys.take k)) _ x false _ Zd hLz ly (unhide F3) (unhide HRY) HST).mono ?_; rintro e w17 ⟨q7, m7, c7, rfl, hl7, hb7, hk7⟩))
                  have hbw7 : Below w30.heap.size w30 w17 := bt hbw.drew hb7
                  clear c0 c1 c2 c3 hk7 hb7 Z Zd hLz HST B hl7
                  go_wp2_with fail
                  go_roundw
                  case rel => exact ⟨k + 1, m7, c7, q7, false, by omega, by go_num, rfl, rfl, HF', hide (fun h => by cases h), hbw7⟩
                  case measure => simp [intOf]; omega
              · have d0 : decide ((k : Int) < (lm : Int)) = false := decide_eq_false (by omega)
                rw [List.take_of_length_le (by omega)] at f3 Z
                obtain ⟨ho, hws⟩ := both_yes (unhide HW) f1 f2 f3
                subst ho
                have hnb : nb ≤ 110 := by rw [B.len, hws]; have := list_len f3; omega
                have hc20 := keep_t qb qa nb cb n c ws (unL xs ys) wr B Z (by omega) hws
                clear f1 f2 f3 B Z hws
                go_wp2_with fail
                refine hc20.mono ?_
                rintro e w20 ⟨rfl, hb20⟩
                have hw20 := bt hww hb20
                clear hc20 hb20
                go_wp2_with fail
                refine (wakes_any w20).mono ?_
                rintro e w21 ⟨rfl, hb21⟩
                have hw21 := bt hw20 hb21
                clear hb21
                go_wp2_with fail
                go_ret
                exact ⟨rfl, hw21⟩
end Go.Proofs.Ytmhpoommgdjbiaa

/- The walk of constablelaw07.ExprParting: it answers true, whatever the steps. -/
import Derived.Test.YtnomndpoklolfaaExpW
import Derived.Test.YtnomndpoklolfaaExpJ
namespace Go.Proofs.Ytnomndpoklolfaa.Sb
open Go.RowKit
open V
open Ex (RowO LiesO flatO)

theorem part_nat {l : List Oo} (hl : exprB l = true) {e : Nat} (he : e < l.length) : ∃ a : Nat, partR l e = a ∧ a ≤ e ∧ exprB ((l.drop a).take (e + 1 - a)) = true ∧ ((a = e) ↔ pushO l[e] = true) := by
  obtain ⟨a, h1, h2, h3⟩ := part_right hl he
  have hs := part_self (expr_iff.1 hl).2.2 he
  refine ⟨a, ?_, h2, h3, ?_⟩
  · unfold partR
    rw [if_pos ⟨hl, Int.natCast_nonneg _, by omega⟩]
    simpa using h1
  · rw [← hs, h1]; omega
theorem partR_out {l : List Oo} {e : Int} (h : ¬ (0 ≤ e ∧ e < l.length)) : partR l e = -1 := by
  unfold partR
  rw [if_neg (fun q => h q.2)]
theorem partR_in {l : List Oo} (hl : exprB l = true) {e : Nat} (he : e < l.length) : partR l e = partL l e := by
  unfold partR
  rw [if_pos ⟨hl, Int.natCast_nonneg _, by omega⟩]
  simp

theorem num_facts {k j y z x : Nat} (h15 : k ≤ 15) (hx : x < k) (hxy : x < y) (hyk : y ≤ k) (hj : k = j + 1) (hz : y = z + 1) : (k : Int) - 1 = (j : Int) ∧ (y : Int) - 1 = (z : Int) ∧ IntKind.i64.wrap (j : Int) = (j : Int) ∧ IntKind.i64.wrap (z : Int) = (z : Int) ∧ wrap64 (j : Int) = (j : Int) ∧ wrap64 (z : Int) = (z : Int) ∧ ((x : Int) == (k : Int)) = false ∧ decide (y ≤ x) = false ∧ decide ((y : Int) ≤ (x : Int)) = false ∧ decide ((x : Int) < 0) = false ∧ decide (k < x) = false ∧ (x == k) = false ∧ decide ((k : Int) < (x : Int)) = false := by
  refine ⟨by omega, by omega, ?_, ?_, ?_, ?_, ?_, decide_eq_false (by omega), decide_eq_false (by omega), decide_eq_false (by omega), decide_eq_false (by omega), ?_, decide_eq_false (by omega)⟩
  · simp [IntKind.wrap, IntKind.bits, IntKind.signed]; omega
  · simp [IntKind.wrap, IntKind.bits, IntKind.signed]; omega
  · simp [wrap64]; omega
  · simp [wrap64]; omega
  · rw [beq_eq_false_iff_ne]; omega
  · rw [beq_eq_false_iff_ne]; omega
theorem op_facts {l : List Oo} (hX : exprB l = true) {k x : Nat} (hk : k < l.length) (hx1 : partR l k = x) (hp : pushO l[k] = false) : ∃ j y z : Nat, x < k ∧ y ≤ 15 ∧ Hid (partR l j = y) ∧ Hid (partR l z = x) ∧ (k : Int) - 1 = (j : Int) ∧ (y : Int) - 1 = (z : Int) ∧ IntKind.i64.wrap (j : Int) = (j : Int) ∧ IntKind.i64.wrap (z : Int) = (z : Int) ∧ wrap64 (j : Int) = (j : Int) ∧ wrap64 (z : Int) = (z : Int) ∧ ((x : Int) == (k : Int)) = false ∧ decide (y ≤ x) = false ∧ decide ((y : Int) ≤ (x : Int)) = false ∧ decide ((x : Int) < 0) = false ∧ decide (k < x) = false ∧ (x == k) = false ∧ decide ((k : Int) < (x : Int)) = false := by
  obtain ⟨⟨_, h15⟩, _, hr⟩ := expr_iff.1 hX
  obtain ⟨a0, y, ha1, h1k, hy1, hlt0, hya⟩ := part_two hr hk hp
  rw [partR_in hX hk, ha1] at hx1
  have hxa : a0 = x := by omega
  subst hxa
  obtain ⟨y', q1, q2, -⟩ := part_spec hr (show k - 1 < l.length by omega)
  have hyk : y ≤ k := by rw [q1] at hy1; omega
  obtain ⟨j, hj⟩ : ∃ j, k = j + 1 := ⟨k - 1, by omega⟩
  obtain ⟨z, hz⟩ : ∃ z, y = z + 1 := ⟨y - 1, by omega⟩
  have hj' : k - 1 = j := by omega
  have hz' : y - 1 = z := by omega
  rw [hj'] at hy1
  rw [hz'] at hya
  refine ⟨j, y, z, by omega, by omega, hide ?_, hide ?_, num_facts (by omega) (by omega) hlt0 hyk hj hz⟩
  · rw [partR_in hX (by omega)]; exact hy1
  · rw [partR_in hX (by omega)]; exact hya

set_option maxHeartbeats 8000000 in
set_option maxRecDepth 100000 in
theorem parting_law (a : Option Addr) (len cap : Nat) (xs : List Oo) (w : World) (hA : LiesO w a len cap xs) :
    Calls Try.prog 6 #[.slice a len cap] w fun e w' => e = .returned (.bool true) ∧ Below w.heap.size w w' := by
  have hl := hA.le
  have hl' := hA.ge
  have hcap := hA.cap
  have hm1 := oheavy_any a len cap xs w hA.row hl hl'
  go_enter Try.func6, Try.ntmps6
  go_wp2_with fail
  refine hm1.mono ?_
  rintro e w1 ⟨rfl | ⟨rfl, h40, hL⟩, hb1⟩
  · clear hm1
    go_wp2_with fail
    go_ret
    exact ⟨rfl, hb1⟩
  have hA1 := hA.on hb1
  have HL := hide hL
  clear hm1 hA hL
  obtain ⟨q, hq⟩ : ∃ q, exprB xs = q := ⟨_, rfl⟩
  have F2 := refExpr_any a len cap xs w1 hA1.row hl hl' (unhide HL)
  rw [hq] at F2
  go_wp2_with fail
  refine F2.mono ?_
  rintro e w2 ⟨rfl, hb2⟩
  have hw2 := bt hb1 hb2
  have hA2 := hA1.on hb2
  clear F2 hA1 hb1 hb2
  cases q with
  | false =>
    go_wp2_with fail
    go_ret
    exact ⟨rfl, hw2⟩
  | true =>
    have HX := hide hq
    have h15 : len ≤ 15 := by have := (expr_iff.1 hq).1.2; omega
    have h1 : 1 ≤ len := by have := (expr_iff.1 hq).1.1; omega
    have H1K := hide (show len ≤ 1000 by omega)
    obtain ⟨b, o, ha, -⟩ := hA2.row.up (show 0 < xs.length by omega)
    subst ha
    clear hq
    go_wp2_with fail
    go_loopw [3] (fun i wr => ∃ k : Nat, k ≤ len ∧ i = .int .i64 k ∧ Below w2.heap.size w2 wr) (fun i _ => len - (intOf i).toNat)
    case atStart => exact ⟨0, Nat.zero_le _, rfl, Below.refl _ _⟩
    case round =>
      obtain ⟨k, hk, rfl, hbw⟩ := hrel
      have hAr := hA2.on hbw
      by_cases hlt : k < len
      · obtain ⟨x, hx1, hx2, hx3, hx4⟩ := part_nat (unhide HX) (show k < xs.length by omega)
        go_wp2_with fail
        refine (part_any (some ⟨b, o, none⟩) len cap xs k x wr hAr (unhide HL) (by omega) (hide hx1)).mono ?_
        rintro e w3 ⟨rfl, hb3⟩
        have hbw3 := bt hbw hb3
        have hAs := hA2.on hbw3
        clear hAr hbw hb3
        obtain ⟨b', o', ha, hbl, c0, c1, c2, c3, c4⟩ := hAs.row.up (show k < xs.length by omega)
        simp only [Option.some.injEq, Addr.mk.injEq, and_true] at ha
        obtain ⟨rfl, rfl⟩ := ha
        have hright := (expr_iff.1 (unhide HX)).2.1 xs[k] (List.getElem_mem (by omega))
        have hC := echeck_any (some ⟨b, o + x * 5, none⟩) (k + 1 - x) (cap - x) ((xs.drop x).take (k + 1 - x)) w3 (hAs.row.cut x (k + 1 - x)) (by simp; omega) (by simp; omega) (fun t ht => unhide HL t (List.mem_of_mem_drop (List.mem_of_mem_take ht))) (by omega)
        rw [chk_t hx3] at hC
        have dk := push_kind hright
        have dk' : decide (xs[k].1 < 3) = !decide ((3 : Int) ≤ xs[k].1) := by
          by_cases h : (3 : Int) ≤ xs[k].1
          · rw [decide_eq_true h, decide_eq_false (by omega)]; rfl
          · rw [decide_eq_false h, decide_eq_true (by omega)]; rfl
        cases hp : pushO xs[k] with
        | true =>
          obtain rfl : x = k := hx4.2 hp
          rw [hp] at dk
          replace dk : decide ((3 : Int) ≤ xs[x].1) = false := dk
          rw [dk] at dk'
          replace dk' : decide (xs[x].1 < 3) = true := dk'
          have hk1 : x + 1 - x = 1 := by omega
          rw [hk1] at hC
          clear hright hx4 hp
          generalize xs[x] = t at c0 c1 c2 c3 c4 dk dk'
          clear hx1 hx3 hk1
          go_wp2_with fail
          refine hC.mono ?_
          rintro e w4 ⟨rfl, hb4⟩
          replace c0 := cell_on hb4 c0
          have hbw4 := bt hbw3 hb4
          clear hC hb4 c1 c2 c3 c4 hAs hbw3
          go_wp2_with fail
          go_roundw
          case rel => exact ⟨x + 1, by omega, by go_num, hbw4⟩
          case measure => simp [intOf]; omega
        | false =>
          rw [hp] at dk
          replace dk : decide ((3 : Int) ≤ xs[k].1) = true := dk
          rw [dk] at dk'
          replace dk' : decide (xs[k].1 < 3) = false := dk'
          have hO := hide (op_facts (unhide HX) (show k < xs.length by omega) hx1 hp)
          clear hright hx4 hp
          generalize xs[k] = t at c0 c1 c2 c3 c4 dk dk'
          obtain ⟨j, y, z, hxk, -, HY, HZ, e0, e1, e2, e3, e4, e5, d1, d2, d3, d4, d5, d6, d7⟩ := unhide hO
          have HE0 := hide e0
          have HE1 := hide e1
          have HE2 := hide e2
          have HE3 := hide e3
          have HE4 := hide e4
          have HE5 := hide e5
          have HD2 := hide d2
          have HD3 := hide d3
          clear hx1 hx3 hO hxk e0 e1 e2 e3 e4 e5 d2 d3
          go_wp2_with fail
          refine hC.mono ?_
          rintro e w4 ⟨rfl, hb4⟩
          replace c0 := cell_on hb4 c0
          have hbw4 := bt hbw3 hb4
          have hA4 := hAs.on hb4
          clear hC hb4 c1 c2 c3 c4 hAs hbw3 hx2 d1 d4 d5 d6 d7 dk' hcap h40
          have e0 := unhide HE0
          have e2 := unhide HE2
          have e4 := unhide HE4
          go_wp2_with fail
          clear e0 e2 e4
          refine (part_any (some ⟨b, o, none⟩) len cap xs j y w4 hA4 (unhide HL) (unhide H1K) HY).mono ?_
          rintro e w5 ⟨rfl, hb5⟩
          have hA5 := hA4.on hb5
          have hbw5 := bt hbw4 hb5
          clear hA4 hbw4 hb5 c0
          have e1 := unhide HE1
          have e3 := unhide HE3
          have e5 := unhide HE5
          have d2 := unhide HD2
          have d3 := unhide HD3
          go_wp2_with fail
          clear e1 e3 e5 d2 d3
          refine (part_any (some ⟨b, o, none⟩) len cap xs z x w5 hA5 (unhide HL) (unhide H1K) HZ).mono ?_
          rintro e w6 ⟨rfl, hb6⟩
          have hbw6 := bt hbw5 hb6
          clear hA5 hbw5 hb6
          go_wp2_with fail
          go_roundw
          case rel => exact ⟨k + 1, by omega, by go_num, hbw6⟩
          case measure => simp [intOf]; omega
      · obtain rfl : k = len := by omega
        have hww := bt hw2 hbw
        clear hbw
        go_wp2_with fail
        refine (part_any (some ⟨b, o, none⟩) k cap xs (-1) (-1) wr hAr (unhide HL) (by omega) (hide (partR_out (by omega)))).mono ?_
        rintro e w3 ⟨rfl, hb3⟩
        have hA3 := hAr.on hb3
        have hw3 := bt hww hb3
        clear hAr hww hb3
        go_wp2_with fail
        refine (part_any (some ⟨b, o, none⟩) k cap xs k (-1) w3 hA3 (unhide HL) (by omega) (hide (partR_out (by omega)))).mono ?_
        rintro e w4 ⟨rfl, hb4⟩
        have hw4 := bt hw3 hb4
        clear hA3 hw3 hb4
        go_wp2_with fail
        refine (wakes_any w4).mono ?_
        rintro e w5 ⟨rfl, hb5⟩
        have hw5 := bt hw4 hb5
        clear hb5 hw4
        go_wp2_with fail
        go_ret
        exact ⟨rfl, hw5⟩
end Go.Proofs.Ytnomndpoklolfaa.Sb

/- The walk of constablelaw08.GuardOne: it answers true, whatever the two values. -/
import Derived.Test.YtakhcifhfbiopaaGuW
namespace Go.Proofs.Ytakhcifhfbiopaa.Sb
open Go.RowKit
open V
open Ex (RowO LiesO flatO)

/-- What the five comparisons of two right values come to: four ways. -/
theorem one_ways {a b : Vv} (ha : rightVv a = true) (hb : rightVv b = true) : ∃ (z : Bool) (eq ne lt gt le : Bool) (n : Int), decide (a = b) = eq ∧ (a.1 != b.1) = z ∧ holdR 1 a b = (eq, 0) ∧ holdR 2 a b = (ne, 0) ∧ holdR 3 a b = (lt, n) ∧ holdR 3 b a = (gt, n) ∧ holdR 4 a b = (le, n) ∧
    ((z, eq, ne, lt, gt, le, n) = (false, false, true, true, false, true, 0) ∨ (z, eq, ne, lt, gt, le, n) = (false, true, false, false, false, true, 0) ∨ (z, eq, ne, lt, gt, le, n) = (false, false, true, false, true, false, 0) ∨ (z, eq, ne, lt, gt, le, n) = (true, false, true, false, false, false, 3)) := by
  have h1 := hold_yes (how := 1) (a := a) (b := b) rfl ha hb (Or.inl rfl)
  have h2 := hold_yes (how := 2) (a := a) (b := b) rfl ha hb (Or.inl rfl)
  by_cases hk : a.1 = b.1
  · have h3 := hold_yes (how := 3) (a := a) (b := b) rfl ha hb (Or.inr hk)
    have h3' := hold_yes (how := 3) (a := b) (b := a) rfl hb ha (Or.inr hk.symm)
    have h4 := hold_yes (how := 4) (a := a) (b := b) rfl ha hb (Or.inr hk)
    have ez : (a.1 != b.1) = false := by simp [hk]
    rw [cmp_anti a b] at h3'
    rcases cmp_tri a b with h | h | h
    · have hne : a ≠ b := fun e => by rw [(cmp_zero a b).2 e] at h; omega
      rw [h] at h1 h2 h3 h3' h4
      exact ⟨false, false, true, true, false, true, 0, decide_eq_false hne, ez, h1, h2, h3, h3', h4, Or.inl rfl⟩
    · have he : a = b := (cmp_zero a b).1 h
      rw [h] at h1 h2 h3 h3' h4
      exact ⟨false, true, false, false, false, true, 0, decide_eq_true he, ez, h1, h2, h3, h3', h4, Or.inr (Or.inl rfl)⟩
    · have hne : a ≠ b := fun e => by rw [(cmp_zero a b).2 e] at h; omega
      rw [h] at h1 h2 h3 h3' h4
      exact ⟨false, false, true, false, true, false, 0, decide_eq_false hne, ez, h1, h2, h3, h3', h4, Or.inr (Or.inr (Or.inl rfl))⟩
  · have hne : a ≠ b := fun e => hk (by rw [e])
    have hc : cmpVv a b ≠ 0 := fun e => hne ((cmp_zero a b).1 e)
    have e1 : sayB 1 (cmpVv a b) = false := by simp [sayB, hc]
    have e2 : sayB 2 (cmpVv a b) = true := by simp [sayB, hc]
    rw [e1] at h1
    rw [e2] at h2
    exact ⟨true, false, true, false, false, false, 3, decide_eq_false hne, by simp [hk], h1, h2, hold_kind rfl ha hb rfl hk, hold_kind rfl hb ha rfl (fun e => hk e.symm), hold_kind rfl ha hb rfl hk, Or.inr (Or.inr (Or.inr rfl))⟩

set_option maxHeartbeats 8000000 in
set_option maxRecDepth 100000 in
theorem one_law (a b : Vv) (w : World) :
    Calls Try.prog 4 #[.agg #[.int .i64 a.1, .int .i64 a.2.1, .string a.2.2], .agg #[.int .i64 b.1, .int .i64 b.2.1, .string b.2.2]] w fun e w' => e = .returned (.bool true) ∧ Below w.heap.size w w' := by
  obtain ⟨T, hw0⟩ := b2_of w a b
  have hsz : ((w.alloc (bxV a)).alloc (bxV b)).heap.size = w.heap.size + 1 + 1 := by simp
  by_cases h1 : 200 < a.2.2.size
  · have d1 := size_t h1
    clear h1 T
    go_enter Try.func4, Try.ntmps4
    go_wp2_with fail
    go_ret
    exact ⟨rfl, hw0⟩
  have d1 := size_f h1
  by_cases h2 : 200 < b.2.2.size
  · have d2 := size_t h2
    clear h1 h2 T
    go_enter Try.func4, Try.ntmps4
    go_wp2_with fail
    go_ret
    exact ⟨rfl, hw0⟩
  have d2 := size_f h2
  have ha : a.2.2.size ≤ 200 := by omega
  have hb : b.2.2.size ≤ 200 := by omega
  obtain ⟨p, hp⟩ : ∃ p, rightVv a = p := ⟨_, rfl⟩
  have F1 := fun W => rval_x a p W ha (hide hp)
  clear h1 h2
  go_enter Try.func4, Try.ntmps4
  go_wp2_with fail
  refine (F1 _).mono ?_
  rintro e w1 ⟨rfl, hb1⟩
  have T1 := T.on hb1
  have hw1 := bt hw0 hb1
  clear T F1 hb1 hw0 d1 d2 hsz
  cases p with
  | false =>
    clear T1
    go_wp2_with fail
    go_ret
    exact ⟨rfl, hw1⟩
  | true =>
  have HA := hide hp
  clear hp
  obtain ⟨p, hp⟩ : ∃ p, rightVv b = p := ⟨_, rfl⟩
  have F1 := rval_x b p w1 hb (hide hp)
  obtain ⟨a0, a1, a2, b0, b1, b2⟩ := T1
  go_wp2_with fail
  refine F1.mono ?_
  rintro e w2 ⟨rfl, hb2⟩
  have T2 := (B2.mk a0 a1 a2 b0 b1 b2).on hb2
  have hw2 := bt hw1 hb2
  clear a0 a1 a2 b0 b1 b2 F1 hb2 hw1
  cases p with
  | false =>
    clear T2
    go_wp2_with fail
    go_ret
    exact ⟨rfl, hw2⟩
  | true =>
  have HB := hide hp
  clear hp
  obtain ⟨z, eq, ne, lt, gt, le, n, hE, hZ, g1, g2, g3, g4, g5, hW⟩ := one_ways (unhide HA) (unhide HB)
  have G1 := hide g1
  have G2 := hide g2
  have G3 := hide g3
  have G4 := hide g4
  have G5 := hide g5
  have HW := hide hW
  have HE := hide hE
  have HZ := hide hZ
  clear g1 g2 g3 g4 g5 hW HA HB hE hZ
  have F1 := holds_any 1 a b eq 0 w2 ha hb G1
  obtain ⟨a0, a1, a2, b0, b1, b2⟩ := T2
  go_wp2_with fail
  refine F1.mono ?_
  rintro e w3 ⟨rfl, hb3⟩
  have T3 := (B2.mk a0 a1 a2 b0 b1 b2).on hb3
  have hw3 := bt hw2 hb3
  clear a0 a1 a2 b0 b1 b2 F1 hb3 hw2
  have F1 := holds_any 2 a b ne 0 w3 ha hb G2
  obtain ⟨a0, a1, a2, b0, b1, b2⟩ := T3
  go_wp2_with fail
  refine F1.mono ?_
  rintro e w4 ⟨rfl, hb4⟩
  have T4 := (B2.mk a0 a1 a2 b0 b1 b2).on hb4
  have hw4 := bt hw3 hb4
  clear a0 a1 a2 b0 b1 b2 F1 hb4 hw3
  have F1 := holds_any 3 a b lt n w4 ha hb G3
  obtain ⟨a0, a1, a2, b0, b1, b2⟩ := T4
  go_wp2_with fail
  refine F1.mono ?_
  rintro e w5 ⟨rfl, hb5⟩
  have T5 := (B2.mk a0 a1 a2 b0 b1 b2).on hb5
  have hw5 := bt hw4 hb5
  clear a0 a1 a2 b0 b1 b2 F1 hb5 hw4
  have F1 := holds_any 3 b a gt n w5 hb ha G4
  obtain ⟨a0, a1, a2, b0, b1, b2⟩ := T5
  go_wp2_with fail
  refine F1.mono ?_
  rintro e w6 ⟨rfl, hb6⟩
  have T6 := (B2.mk a0 a1 a2 b0 b1 b2).on hb6
  have hw6 := bt hw5 hb6
  clear a0 a1 a2 b0 b1 b2 F1 hb6 hw5
  have F1 := holds_any 4 a b le n w6 ha hb G5
  obtain ⟨a0, a1, a2, b0, b1, b2⟩ := T6
  go_wp2_with fail
  refine F1.mono ?_
  rintro e w7 ⟨rfl, hb7⟩
  have T7 := (B2.mk a0 a1 a2 b0 b1 b2).on hb7
  have hw7 := bt hw6 hb7
  clear a0 a1 a2 b0 b1 b2 F1 hb7 hw6 G1 G2 G3 G4 G5
  obtain ⟨a0, a1, a2, b0, b1, b2⟩ := T7
  have hQ := eqV0 a b
  rw [unhide HE] at hQ
  have hz := unhide HZ
  clear HE HZ
  rcases unhide HW with h | h | h | h <;> (clear HW; cases h)
  all_goals
    go_wp2_with fail
    refine (wakes_any _).mono ?_
    rintro e w8 ⟨rfl, hb8⟩
    have hw8 := bt hw7 hb8
    clear a0 a1 a2 b0 b1 b2 hQ hz hb8
    go_wp2_with fail
    go_ret
    exact ⟨rfl, hw8⟩
end Go.Proofs.Ytakhcifhfbiopaa.Sb

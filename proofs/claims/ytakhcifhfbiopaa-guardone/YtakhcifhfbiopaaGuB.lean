/- What val.Compare, guard.isWay, guard.asksOrder, guard.Holds and the document's Holds answer. -/
import Derived.Test.YtakhcifhfbiopaaGuA
import Derived.Test.YtakhcifhfbiopaaOwnF
import Derived.Test.YtakhcifhfbiopaaExpJ
namespace Go.Proofs.Ytakhcifhfbiopaa.Sb
open Go.RowKit
open V

theorem vcmp_x (a b : Vv) (c : Int) (w : World) (H : Hid (cmpVv a b = c)) :
    Calls Try.prog 29 #[.agg #[.int .i64 a.1, .int .i64 a.2.1, .string a.2.2], .agg #[.int .i64 b.1, .int .i64 b.2.1, .string b.2.2]] w fun e w' => e = .returned (.int .i64 c) ∧ Below w.heap.size w w' := by
  have h := compare_any a.1 a.2.1 b.1 b.2.1 a.2.2 b.2.2 w
  rw [show or3 (Lib.compareInt a.1 b.1) (Lib.compareInt a.2.1 b.2.1) (Lib.compareBytes a.2.2.data.toList b.2.2.data.toList) = c from unhide H] at h
  exact h
theorem rvals_x (a b : Vv) (c : Int) (w : World) (ha : a.2.2.size ≤ 200) (hb : b.2.2.size ≤ 200) (H : Hid (cmpVv a b = c)) :
    Calls Try.prog 31 #[.agg #[.int .i64 a.1, .int .i64 a.2.1, .string a.2.2], .agg #[.int .i64 b.1, .int .i64 b.2.1, .string b.2.2]] w fun e w' => e = .returned (.int .i64 c) ∧ Below w.heap.size w w' := by
  have h := refValues_any a.1 a.2.1 b.1 b.2.1 a.2.2 b.2.2 w (by omega) (by omega)
  rw [show cmpV (a.1, a.2.1, a.2.2.data.toList) (b.1, b.2.1, b.2.2.data.toList) = c from unhide H] at h
  exact h
theorem rval_x (v : Vv) (q : Bool) (w : World) (hs : v.2.2.size ≤ 200) (H : Hid (rightVv v = q)) :
    Calls Try.prog 19 #[.agg #[.int .i64 v.1, .int .i64 v.2.1, .string v.2.2]] w fun e w' => e = .returned (.bool q) ∧ Below w.heap.size w w' := by
  have h := refValue_any v.1 v.2.1 v.2.2 w (by omega)
  rw [show rightB v.1 v.2.1 v.2.2.data.toList = q from unhide H] at h
  exact h
theorem asks_q (how : Int) (q : Bool) (w : World) (H : Hid (askB how = q)) :
    Calls Try.prog 28 #[.int .i64 how] w fun e w' => e = .returned (.bool q) ∧ w' = w := by
  by_cases h3 : how = 3
  · subst h3
    go_enter Try.func28, Try.ntmps28
    go_wp2_with fail
    go_ret
    exact ⟨ret_bool' (unhide H), rfl⟩
  · by_cases h4 : how = 4
    · subst h4
      go_enter Try.func28, Try.ntmps28
      go_wp2_with fail
      go_ret
      exact ⟨ret_bool' (unhide H), rfl⟩
    · have e3 : (how == 3) = false := by simp [h3]
      have e4 : (how == 4) = false := by simp [h4]
      have HF := hide (show false = q by rw [← unhide H]; exact (decide_eq_false (by omega)).symm)
      clear h3 h4
      go_enter Try.func28, Try.ntmps28
      go_wp2_with fail
      go_ret
      exact ⟨ret_bool' (unhide HF), rfl⟩
theorem isWay_q (how : Int) (q : Bool) (w : World) (H : Hid (wayB how = q)) :
    Calls Try.prog 26 #[.int .i64 how] w fun e w' => e = .returned (.bool q) ∧ w' = w := by
  by_cases h1 : how = 1
  · subst h1
    go_enter Try.func26, Try.ntmps26
    go_wp2_with fail
    go_ret
    exact ⟨ret_bool' (unhide H), rfl⟩
  · by_cases h2 : how = 2
    · subst h2
      go_enter Try.func26, Try.ntmps26
      go_wp2_with fail
      go_ret
      exact ⟨ret_bool' (unhide H), rfl⟩
    · have e1 : (how == 1) = false := by simp [h1]
      have e2 : (how == 2) = false := by simp [h2]
      have HF := hide (show askB how = q by rw [← unhide H]; unfold wayB askB; by_cases h : how = 3 ∨ how = 4 <;> simp [h] <;> omega)
      clear h1 h2
      go_enter Try.func26, Try.ntmps26
      go_wp2_with fail
      refine (asks_q how q _ HF).mono ?_
      rintro e w1 ⟨rfl, rfl⟩
      go_wp2_with fail
      go_ret
      exact ⟨rfl, rfl⟩
/-- Two boxes of values. -/
structure B2 (W : World) (b : Nat) (x y : Vv) : Prop where
  a0 : W.cell? ⟨b, 0, none⟩ = some (.int .i64 x.1)
  a1 : W.cell? ⟨b, 1, none⟩ = some (.int .i64 x.2.1)
  a2 : W.cell? ⟨b, 2, none⟩ = some (.string x.2.2)
  b0 : W.cell? ⟨b + 1, 0, none⟩ = some (.int .i64 y.1)
  b1 : W.cell? ⟨b + 1, 1, none⟩ = some (.int .i64 y.2.1)
  b2 : W.cell? ⟨b + 1, 2, none⟩ = some (.string y.2.2)
theorem B2.on {W w1 : World} {b : Nat} {x y : Vv} (T : B2 W b x y) (hb : Below W.heap.size W w1) : B2 w1 b x y :=
  ⟨cell_on hb T.a0, cell_on hb T.a1, cell_on hb T.a2, cell_on hb T.b0, cell_on hb T.b1, cell_on hb T.b2⟩
theorem b2_of (w : World) (x y : Vv) : B2 ((w.alloc (bxV x)).alloc (bxV y)) w.heap.size x y ∧ Below w.heap.size w ((w.alloc (bxV x)).alloc (bxV y)) := by
  have s1 : (w.alloc (bxV x)).heap.size = w.heap.size + 1 := by simp
  have h1 := heap_alloc_new (w.alloc (bxV x)) (bxV y)
  rw [s1] at h1
  have h0 : ((w.alloc (bxV x)).alloc (bxV y)).heap[w.heap.size]? = some (bxV x) := by
    rw [Lib.alloc_old _ _ _ (by omega)]; exact heap_alloc_new w (bxV x)
  obtain ⟨p0, p1, p2⟩ := trip_of h0
  obtain ⟨q0, q1, q2⟩ := trip_of h1
  exact ⟨⟨p0, p1, p2, q0, q1, q2⟩, ((Below.refl _ _).alloc (Nat.le_refl _) _).alloc (by simp) _⟩

set_option maxHeartbeats 4000000 in
theorem holds_any (how : Int) (a b : Vv) (q : Bool) (n : Int) (w : World) (ha : a.2.2.size ≤ 200) (hb : b.2.2.size ≤ 200) (H : Hid (holdR how a b = (q, n))) :
    Calls Try.prog 10 #[.int .i64 how, .agg #[.int .i64 a.1, .int .i64 a.2.1, .string a.2.2], .agg #[.int .i64 b.1, .int .i64 b.2.1, .string b.2.2]] w fun e w' => e = .returned (.tuple #[.bool q, .int .i64 n]) ∧ Below w.heap.size w w' := by
  obtain ⟨T, hw0⟩ := b2_of w a b
  have hsz : ((w.alloc (bxV a)).alloc (bxV b)).heap.size = w.heap.size + 1 + 1 := by simp
  obtain ⟨p, hp⟩ : ∃ p, wayB how = p := ⟨_, rfl⟩
  have F1 := fun W => isWay_q how p W (hide hp)
  go_enter Try.func10, Try.ntmps10
  go_wp2_with fail
  refine (F1 _).mono ?_
  rintro e w1 ⟨rfl, hw1⟩
  subst hw1
  clear F1
  cases p with
  | false =>
    have HR := hide (show ((false, 1) : Bool × Int) = (q, n) by rw [← unhide H, hold_no (Or.inl hp)])
    clear T hsz hp H
    go_wp2_with fail
    go_ret2
    exact ⟨ret_hold (unhide HR), hw0⟩
  | true =>
  have HP := hide hp
  clear hp
  generalize (w.alloc (bxV a)).alloc (bxV b) = W at T hw0 hsz
  obtain ⟨a0, a1, a2, b0, b1, b2⟩ := T
  obtain ⟨p, hp⟩ : ∃ p, rightVv a = p := ⟨_, rfl⟩
  have F1 := vcheck_x a (chk p) W ha (hide (by rw [hp]))
  go_wp2_with fail
  refine F1.mono ?_
  rintro e w1 ⟨rfl, hb1⟩
  clear F1
  have T1 := (B2.mk a0 a1 a2 b0 b1 b2).on hb1
  have hw1 := bt hw0 hb1
  have hs1 : w.heap.size + 1 + 1 ≤ w1.heap.size := by have := hb1.size; omega
  clear a0 a1 a2 b0 b1 b2 hb1 hw0 hsz
  cases p with
  | false =>
    have HR := hide (show ((false, 1) : Bool × Int) = (q, n) by rw [← unhide H, hold_no (Or.inr (Or.inl hp))])
    clear T1 hp H HP
    rw [show chk false = 1 from rfl] 
    go_wp2_with fail
    go_ret2
    exact ⟨ret_hold (unhide HR), hw1⟩
  | true =>
  have HA := hide hp
  clear hp
  rw [show chk true = 0 from rfl]
  obtain ⟨a0, a1, a2, b0, b1, b2⟩ := T1
  obtain ⟨p, hp⟩ : ∃ p, rightVv b = p := ⟨_, rfl⟩
  have F1 := vcheck_x b (chk p) w1 hb (hide (by rw [hp]))
  go_wp2_with fail
  refine F1.mono ?_
  rintro e w2 ⟨rfl, hb2⟩
  clear F1
  have T2 := (B2.mk a0 a1 a2 b0 b1 b2).on hb2
  have hw2 := bt hw1 hb2
  clear a0 a1 a2 b0 b1 b2 hb2 hw1 hs1
  cases p with
  | false =>
    have HR := hide (show ((false, 1) : Bool × Int) = (q, n) by rw [← unhide H, hold_no (Or.inr (Or.inr hp))])
    clear T2 hp H HP
    rw [show chk false = 1 from rfl]
    go_wp2_with fail
    go_ret2
    exact ⟨ret_hold (unhide HR), hw2⟩
  | true =>
  have HB := hide hp
  clear hp
  rw [show chk true = 0 from rfl]
  obtain ⟨c, hc⟩ : ∃ c, cmpVv a b = c := ⟨_, rfl⟩
  have HC := hide hc
  clear hc
  have F2 := fun W => vcmp_x a b c W HC
  have h14 := way_four (unhide HP)
  rcases h14 with rfl | rfl | rfl | rfl
  · have HR := hide (show (((c == 0), 0) : Bool × Int) = (q, n) by rw [← unhide H, hold_yes (unhide HP) (unhide HA) (unhide HB) (Or.inl rfl), unhide HC]; by_cases hz : c = 0 <;> simp [sayB, hz])
    clear H HP HA HB HC
    obtain ⟨a0, a1, a2, b0, b1, b2⟩ := T2
    go_wp2_with fail
    refine (asks_q 1 false _ (hide rfl)).mono ?_
    rintro e w3 ⟨rfl, hw3⟩
    subst hw3
    go_wp2_with fail
    refine (F2 _).mono ?_
    rintro e w3 ⟨rfl, hb3⟩
    clear F2 a0 a1 a2 b0 b1 b2
    go_wp2_with fail
    go_ret2
    exact ⟨ret_hold (unhide HR), bt hw2 hb3⟩
  · have HR := hide (show (((c != 0), 0) : Bool × Int) = (q, n) by rw [← unhide H, hold_yes (unhide HP) (unhide HA) (unhide HB) (Or.inl rfl), unhide HC]; by_cases hz : c = 0 <;> simp [sayB, hz])
    clear H HP HA HB HC
    obtain ⟨a0, a1, a2, b0, b1, b2⟩ := T2
    go_wp2_with fail
    refine (asks_q 2 false _ (hide rfl)).mono ?_
    rintro e w3 ⟨rfl, hw3⟩
    subst hw3
    go_wp2_with fail
    refine (F2 _).mono ?_
    rintro e w3 ⟨rfl, hb3⟩
    clear F2 a0 a1 a2 b0 b1 b2
    go_wp2_with fail
    go_ret2
    exact ⟨ret_hold (unhide HR), bt hw2 hb3⟩
  · by_cases hk : a.1 = b.1
    · have HR := hide (show ((decide (c < 0), 0) : Bool × Int) = (q, n) by rw [← unhide H, hold_yes (unhide HP) (unhide HA) (unhide HB) (Or.inr hk), unhide HC]; simp [sayB])
      have ek : (a.1 != b.1) = false := by simp [hk]
      clear H HP HA HB HC hk
      obtain ⟨a0, a1, a2, b0, b1, b2⟩ := T2
      go_wp2_with fail
      refine (asks_q 3 true _ (hide rfl)).mono ?_
      rintro e w3 ⟨rfl, hw3⟩
      subst hw3
      go_wp2_with fail
      refine (F2 _).mono ?_
      rintro e w3 ⟨rfl, hb3⟩
      clear F2 a0 a1 a2 b0 b1 b2 ek
      go_wp2_with fail
      go_ret2
      exact ⟨ret_hold (unhide HR), bt hw2 hb3⟩
    · have HR := hide (show ((false, 3) : Bool × Int) = (q, n) by rw [← unhide H, hold_kind (unhide HP) (unhide HA) (unhide HB) rfl hk])
      have ek : (a.1 != b.1) = true := by simp [hk]
      clear H HP HA HB HC hk F2
      obtain ⟨a0, a1, a2, b0, b1, b2⟩ := T2
      go_wp2_with fail
      refine (asks_q 3 true _ (hide rfl)).mono ?_
      rintro e w3 ⟨rfl, hw3⟩
      subst hw3
      go_wp2_with fail
      go_ret2
      exact ⟨ret_hold (unhide HR), hw2⟩
  · by_cases hk : a.1 = b.1
    · have HR := hide (show ((decide (c ≤ 0), 0) : Bool × Int) = (q, n) by rw [← unhide H, hold_yes (unhide HP) (unhide HA) (unhide HB) (Or.inr hk), unhide HC]; simp [sayB])
      have ek : (a.1 != b.1) = false := by simp [hk]
      clear H HP HA HB HC hk
      obtain ⟨a0, a1, a2, b0, b1, b2⟩ := T2
      go_wp2_with fail
      refine (asks_q 4 true _ (hide rfl)).mono ?_
      rintro e w3 ⟨rfl, hw3⟩
      subst hw3
      go_wp2_with fail
      refine (F2 _).mono ?_
      rintro e w3 ⟨rfl, hb3⟩
      clear F2 a0 a1 a2 b0 b1 b2 ek
      go_wp2_with fail
      go_ret2
      exact ⟨ret_hold (unhide HR), bt hw2 hb3⟩
    · have HR := hide (show ((false, 3) : Bool × Int) = (q, n) by rw [← unhide H, hold_kind (unhide HP) (unhide HA) (unhide HB) rfl hk])
      have ek : (a.1 != b.1) = true := by simp [hk]
      clear H HP HA HB HC hk F2
      obtain ⟨a0, a1, a2, b0, b1, b2⟩ := T2
      go_wp2_with fail
      refine (asks_q 4 true _ (hide rfl)).mono ?_
      rintro e w3 ⟨rfl, hw3⟩
      subst hw3
      go_wp2_with fail
      go_ret2
      exact ⟨ret_hold (unhide HR), hw2⟩

set_option maxHeartbeats 4000000 in
theorem refHolds_any (how : Int) (a b : Vv) (q : Bool) (n : Int) (w : World) (ha : a.2.2.size ≤ 200) (hb : b.2.2.size ≤ 200) (H : Hid (holdR how a b = (q, n))) :
    Calls Try.prog 11 #[.int .i64 how, .agg #[.int .i64 a.1, .int .i64 a.2.1, .string a.2.2], .agg #[.int .i64 b.1, .int .i64 b.2.1, .string b.2.2]] w fun e w' => e = .returned (.tuple #[.bool q, .int .i64 n]) ∧ Below w.heap.size w w' := by
  obtain ⟨T, hw0⟩ := b2_of w a b
  have hsz : ((w.alloc (bxV a)).alloc (bxV b)).heap.size = w.heap.size + 1 + 1 := by simp
  obtain ⟨p, hp⟩ : ∃ p, wayB how = p := ⟨_, rfl⟩
  have F1 := fun W => refIn_q how 1 4 p W (hide hp)
  go_enter Try.func11, Try.ntmps11
  go_wp2_with fail
  refine (F1 _).mono ?_
  rintro e w1 ⟨rfl, hw1⟩
  subst hw1
  clear F1
  cases p with
  | false =>
    have HR := hide (show ((false, 1) : Bool × Int) = (q, n) by rw [← unhide H, hold_no (Or.inl hp)])
    clear T hsz hp H
    go_wp2_with fail
    go_ret2
    exact ⟨ret_hold (unhide HR), hw0⟩
  | true =>
  have HP := hide hp
  clear hp
  generalize (w.alloc (bxV a)).alloc (bxV b) = W at T hw0 hsz
  obtain ⟨a0, a1, a2, b0, b1, b2⟩ := T
  obtain ⟨p, hp⟩ : ∃ p, rightVv a = p := ⟨_, rfl⟩
  have F1 := rval_x a (p) W ha (hide (by rw [hp]))
  go_wp2_with fail
  refine F1.mono ?_
  rintro e w1 ⟨rfl, hb1⟩
  clear F1
  have T1 := (B2.mk a0 a1 a2 b0 b1 b2).on hb1
  have hw1 := bt hw0 hb1
  have hs1 : w.heap.size + 1 + 1 ≤ w1.heap.size := by have := hb1.size; omega
  clear a0 a1 a2 b0 b1 b2 hb1 hw0 hsz
  cases p with
  | false =>
    have HR := hide (show ((false, 1) : Bool × Int) = (q, n) by rw [← unhide H, hold_no (Or.inr (Or.inl hp))])
    clear T1 hp H HP
    go_wp2_with fail
    go_ret2
    exact ⟨ret_hold (unhide HR), hw1⟩
  | true =>
  have HA := hide hp
  clear hp
  skip
  obtain ⟨a0, a1, a2, b0, b1, b2⟩ := T1
  obtain ⟨p, hp⟩ : ∃ p, rightVv b = p := ⟨_, rfl⟩
  have F1 := rval_x b (p) w1 hb (hide (by rw [hp]))
  go_wp2_with fail
  refine F1.mono ?_
  rintro e w2 ⟨rfl, hb2⟩
  clear F1
  have T2 := (B2.mk a0 a1 a2 b0 b1 b2).on hb2
  have hw2 := bt hw1 hb2
  clear a0 a1 a2 b0 b1 b2 hb2 hw1 hs1
  cases p with
  | false =>
    have HR := hide (show ((false, 1) : Bool × Int) = (q, n) by rw [← unhide H, hold_no (Or.inr (Or.inr hp))])
    clear T2 hp H HP
    skip
    go_wp2_with fail
    go_ret2
    exact ⟨ret_hold (unhide HR), hw2⟩
  | true =>
  have HB := hide hp
  clear hp
  skip
  obtain ⟨c, hc⟩ : ∃ c, cmpVv a b = c := ⟨_, rfl⟩
  have HC := hide hc
  clear hc
  have F2 := fun W => rvals_x a b c W ha hb HC
  have h14 := way_four (unhide HP)
  rcases h14 with rfl | rfl | rfl | rfl
  · have HR := hide (show (((c == 0), 0) : Bool × Int) = (q, n) by rw [← unhide H, hold_yes (unhide HP) (unhide HA) (unhide HB) (Or.inl rfl), unhide HC]; by_cases hz : c = 0 <;> simp [sayB, hz])
    clear H HP HA HB HC
    obtain ⟨a0, a1, a2, b0, b1, b2⟩ := T2
    go_wp2_with fail
    refine (F2 _).mono ?_
    rintro e w3 ⟨rfl, hb3⟩
    clear F2 a0 a1 a2 b0 b1 b2
    go_wp2_with fail
    go_ret2
    exact ⟨ret_hold (unhide HR), bt hw2 hb3⟩
  · have HR := hide (show (((c != 0), 0) : Bool × Int) = (q, n) by rw [← unhide H, hold_yes (unhide HP) (unhide HA) (unhide HB) (Or.inl rfl), unhide HC]; by_cases hz : c = 0 <;> simp [sayB, hz])
    clear H HP HA HB HC
    obtain ⟨a0, a1, a2, b0, b1, b2⟩ := T2
    go_wp2_with fail
    refine (F2 _).mono ?_
    rintro e w3 ⟨rfl, hb3⟩
    clear F2 a0 a1 a2 b0 b1 b2
    go_wp2_with fail
    go_ret2
    exact ⟨ret_hold (unhide HR), bt hw2 hb3⟩
  · by_cases hk : a.1 = b.1
    · have HR := hide (show ((decide (c < 0), 0) : Bool × Int) = (q, n) by rw [← unhide H, hold_yes (unhide HP) (unhide HA) (unhide HB) (Or.inr hk), unhide HC]; simp [sayB])
      have ek : (a.1 != b.1) = false := by simp [hk]
      clear H HP HA HB HC hk
      obtain ⟨a0, a1, a2, b0, b1, b2⟩ := T2
      go_wp2_with fail
      refine (F2 _).mono ?_
      rintro e w3 ⟨rfl, hb3⟩
      clear F2 a0 a1 a2 b0 b1 b2 ek
      go_wp2_with fail
      go_ret2
      exact ⟨ret_hold (unhide HR), bt hw2 hb3⟩
    · have HR := hide (show ((false, 3) : Bool × Int) = (q, n) by rw [← unhide H, hold_kind (unhide HP) (unhide HA) (unhide HB) rfl hk])
      have ek : (a.1 != b.1) = true := by simp [hk]
      clear H HP HA HB HC hk F2
      obtain ⟨a0, a1, a2, b0, b1, b2⟩ := T2
      go_wp2_with fail
      go_ret2
      exact ⟨ret_hold (unhide HR), hw2⟩
  · by_cases hk : a.1 = b.1
    · have HR := hide (show ((decide (c ≤ 0), 0) : Bool × Int) = (q, n) by rw [← unhide H, hold_yes (unhide HP) (unhide HA) (unhide HB) (Or.inr hk), unhide HC]; simp [sayB])
      have ek : (a.1 != b.1) = false := by simp [hk]
      clear H HP HA HB HC hk
      obtain ⟨a0, a1, a2, b0, b1, b2⟩ := T2
      go_wp2_with fail
      refine (F2 _).mono ?_
      rintro e w3 ⟨rfl, hb3⟩
      clear F2 a0 a1 a2 b0 b1 b2 ek
      go_wp2_with fail
      go_ret2
      exact ⟨ret_hold (unhide HR), bt hw2 hb3⟩
    · have HR := hide (show ((false, 3) : Bool × Int) = (q, n) by rw [← unhide H, hold_kind (unhide HP) (unhide HA) (unhide HB) rfl hk])
      have ek : (a.1 != b.1) = true := by simp [hk]
      clear H HP HA HB HC hk F2
      obtain ⟨a0, a1, a2, b0, b1, b2⟩ := T2
      go_wp2_with fail
      go_ret2
      exact ⟨ret_hold (unhide HR), hw2⟩
end Go.Proofs.Ytakhcifhfbiopaa.Sb

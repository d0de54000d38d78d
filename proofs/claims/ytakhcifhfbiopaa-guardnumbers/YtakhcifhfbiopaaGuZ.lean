/- The walk of constablelaw08.GuardNumbers: it answers true, whatever the numbers, the texts. -/
import Derived.Test.YtakhcifhfbiopaaGuW
namespace Go.Proofs.Ytakhcifhfbiopaa.Sb
open Go.RowKit
open V
open Ex (RowO LiesO flatO)

theorem less_cmp : ∀ (a b : List UInt8), Op.bytesLess a b = decide (Lib.compareBytes a b < 0)
  | [], [] => by simp [Op.bytesLess, Lib.compareBytes]
  | [], _ :: _ => by simp [Op.bytesLess, Lib.compareBytes]
  | _ :: _, [] => by simp [Op.bytesLess, Lib.compareBytes]
  | x :: r, y :: s => by
    rcases u8_tri x y with h | h | h
    · rw [cB_lt h]; simp [Op.bytesLess, h]
    · subst h; rw [cB_same, ← less_cmp r s]; simp [Op.bytesLess]
    · have hne : ¬ x = y := fun e => by subst e; exact u8_irrefl _ h
      have hlt : ¬ x < y := u8_asymm h
      rw [cB_gt h]; unfold Op.bytesLess; rw [decide_eq_false hlt, show (x == y) = false from by simpa using hne]; rfl
theorem cI_lt_iff (a b : Int) : decide (a < b) = decide (Lib.compareInt a b < 0) := by
  rcases Int.lt_trichotomy a b with h | h | h
  · rw [cI_lt h]; simp [h]
  · subst h; rw [cI_eq]; simp
  · rw [cI_gt h]; simp; omega
theorem cI_le_iff (a b : Int) : decide (a ≤ b) = decide (Lib.compareInt a b ≤ 0) := by
  rcases Int.lt_trichotomy a b with h | h | h
  · rw [cI_lt h]; simp; omega
  · subst h; rw [cI_eq]; simp
  · rw [cI_gt h]; simp; omega
theorem cI_zero (a b : Int) : Lib.compareInt a b = 0 ↔ a = b := ord_int.zero a b
/-- What is wanted of two numbers, of two texts. -/
theorem want_int (a b : Int) : (a == b) = sayB 1 (Lib.compareInt a b) ∧ (a != b) = sayB 2 (Lib.compareInt a b) ∧ decide (a < b) = sayB 3 (Lib.compareInt a b) ∧ decide (a ≤ b) = sayB 4 (Lib.compareInt a b) := by
  refine ⟨?_, ?_, ?_, ?_⟩
  · by_cases h : a = b <;> simp [sayB, cI_zero, h]
  · by_cases h : a = b <;> simp [sayB, cI_zero, h]
  · simp [sayB, ← cI_lt_iff]
  · simp [sayB, ← cI_le_iff]
theorem want_str (s t : ByteArray) : (s.toList == t.toList) = sayB 1 (Lib.compareBytes s.data.toList t.data.toList) ∧ (!(s.toList == t.toList)) = sayB 2 (Lib.compareBytes s.data.toList t.data.toList) ∧ Op.bytesLess s.toList t.toList = sayB 3 (Lib.compareBytes s.data.toList t.data.toList) ∧ (Op.bytesLess s.toList t.toList || s.toList == t.toList) = sayB 4 (Lib.compareBytes s.data.toList t.data.toList) := by
  rw [ByteArray.toList_eq, ByteArray.toList_eq, less_cmp]
  have hz : (s.data.toList == t.data.toList) = decide (Lib.compareBytes s.data.toList t.data.toList = 0) := by
    by_cases h : s.data.toList = t.data.toList
    · rw [decide_eq_true ((cB_zero _ _).2 h)]; simp [h]
    · rw [decide_eq_false (fun e => h ((cB_zero _ _).1 e))]; exact beq_eq_false_iff_ne.2 h
  rw [hz]
  refine ⟨by simp [sayB], by simp [sayB], by simp [sayB], ?_⟩
  rcases cB_tri s.data.toList t.data.toList with h | h | h <;> (rw [h]; decide)
theorem cmp_int (a b : Int) : cmpVv (1, a, ⟨#[]⟩) (1, b, ⟨#[]⟩) = Lib.compareInt a b := by
  unfold cmpVv cmpV trp orV
  simp only [cI_eq]
  by_cases h : Lib.compareInt a b = 0 <;> simp [h, Lib.compareBytes]
theorem cmp_str (s t : ByteArray) : cmpVv (3, 0, s) (3, 0, t) = Lib.compareBytes s.data.toList t.data.toList := by
  unfold cmpVv cmpV trp orV
  simp [cI_eq]
theorem right_int {a : Int} (h : -4611686018427387904 ≤ a ∧ a ≤ 4611686018427387904) : rightVv (1, a, ⟨#[]⟩) = true := by
  simp [rightVv, rightB, h.1, h.2]
theorem right_str {s : ByteArray} (h : s.size ≤ 10) (k : s.data.toList.all strC = true) : rightVv (3, 0, s) = true := by
  have hl : s.data.toList.length = s.size := by simp
  have h60 : strB s.data.toList = true := by
    unfold strB
    rw [k, hl]
    simp; omega
  simp [rightVv, rightB, h60]
/-- What the law has laid: two numbers, two texts, what is wanted of them. -/
structure Nm (W : World) (b : Nat) (x y p q : Vv) (c d : Int) : Prop where
  n : B2 W b x y
  s : B2 W (b + 1 + 1) p q
  c1 : W.cell? ⟨b + 1 + 1 + 1 + 1, 1, none⟩ = some (.bool (sayB 1 c))
  c2 : W.cell? ⟨b + 1 + 1 + 1 + 1, 2, none⟩ = some (.bool (sayB 2 c))
  c3 : W.cell? ⟨b + 1 + 1 + 1 + 1, 3, none⟩ = some (.bool (sayB 3 c))
  c4 : W.cell? ⟨b + 1 + 1 + 1 + 1, 4, none⟩ = some (.bool (sayB 4 c))
  d1 : W.cell? ⟨b + 1 + 1 + 1 + 1 + 1, 1, none⟩ = some (.bool (sayB 1 d))
  d2 : W.cell? ⟨b + 1 + 1 + 1 + 1 + 1, 2, none⟩ = some (.bool (sayB 2 d))
  d3 : W.cell? ⟨b + 1 + 1 + 1 + 1 + 1, 3, none⟩ = some (.bool (sayB 3 d))
  d4 : W.cell? ⟨b + 1 + 1 + 1 + 1 + 1, 4, none⟩ = some (.bool (sayB 4 d))
theorem Nm.on {W w1 : World} {b : Nat} {x y p q : Vv} {c d : Int} (T : Nm W b x y p q c d) (hb : Below W.heap.size W w1) : Nm w1 b x y p q c d :=
  ⟨T.n.on hb, T.s.on hb, cell_on hb T.c1, cell_on hb T.c2, cell_on hb T.c3, cell_on hb T.c4, cell_on hb T.d1, cell_on hb T.d2, cell_on hb T.d3, cell_on hb T.d4⟩
theorem nm_of (w : World) (a b : Int) (s t : ByteArray) : ∃ W, W = ((((((w.alloc (.cells #[.int .i64 1, .int .i64 a, .string ⟨#[]⟩] 23)).alloc (.cells #[.int .i64 1, .int .i64 b, .string ⟨#[]⟩] 23)).alloc (.cells #[.int .i64 3, .int .i64 0, .string s] 23)).alloc (.cells #[.int .i64 3, .int .i64 0, .string t] 23)).alloc
      (.cells #[.bool false, .bool (a == b), .bool (a != b), .bool (decide (a < b)), .bool (decide (a ≤ b))] 4)).alloc
      (.cells #[.bool false, .bool (s.toList == t.toList), .bool (!(s.toList == t.toList)), .bool (Op.bytesLess s.toList t.toList), .bool (Op.bytesLess s.toList t.toList || s.toList == t.toList)] 4)) ∧
    Below w.heap.size w W ∧ Nm W w.heap.size (1, a, ⟨#[]⟩) (1, b, ⟨#[]⟩) (3, 0, s) (3, 0, t) (Lib.compareInt a b) (Lib.compareBytes s.data.toList t.data.toList) := by
  obtain ⟨hb, k0, k1, k2, k3, k4, k5, _⟩ := six_of w (.cells #[.int .i64 1, .int .i64 a, .string ⟨#[]⟩] 23) (.cells #[.int .i64 1, .int .i64 b, .string ⟨#[]⟩] 23) (.cells #[.int .i64 3, .int .i64 0, .string s] 23) (.cells #[.int .i64 3, .int .i64 0, .string t] 23) (.cells #[.bool false, .bool (a == b), .bool (a != b), .bool (decide (a < b)), .bool (decide (a ≤ b))] 4) (.cells #[.bool false, .bool (s.toList == t.toList), .bool (!(s.toList == t.toList)), .bool (Op.bytesLess s.toList t.toList), .bool (Op.bytesLess s.toList t.toList || s.toList == t.toList)] 4)
  refine ⟨_, rfl, hb, ?_⟩
  obtain ⟨p0, p1, p2⟩ := trip_of (v := (1, a, ⟨#[]⟩)) k0
  obtain ⟨q0, q1, q2⟩ := trip_of (v := (1, b, ⟨#[]⟩)) k1
  obtain ⟨r0, r1, r2⟩ := trip_of (v := (3, 0, s)) k2
  obtain ⟨s0, s1, s2⟩ := trip_of (v := (3, 0, t)) k3
  obtain ⟨i1, i2, i3, i4⟩ := want_int a b
  obtain ⟨j1, j2, j3, j4⟩ := want_str s t
  refine ⟨⟨p0, p1, p2, q0, q1, q2⟩, ⟨r0, r1, r2, s0, s1, s2⟩, ?_, ?_, ?_, ?_, ?_, ?_, ?_, ?_⟩
  · rw [Lib.cell_of_heap k4, ← i1]; rfl
  · rw [Lib.cell_of_heap k4, ← i2]; rfl
  · rw [Lib.cell_of_heap k4, ← i3]; rfl
  · rw [Lib.cell_of_heap k4, ← i4]; rfl
  · rw [Lib.cell_of_heap k5, ← j1]; rfl
  · rw [Lib.cell_of_heap k5, ← j2]; rfl
  · rw [Lib.cell_of_heap k5, ← j3]; rfl
  · rw [Lib.cell_of_heap k5, ← j4]; rfl
theorem bne_self (z : Bool) : (z != z) = false := by cases z <;> rfl

set_option maxHeartbeats 40000000 in
set_option maxRecDepth 100000 in
theorem numbers_law (a b : Int) (s t : ByteArray) (w : World) :
    Calls Try.prog 6 #[.int .i64 a, .int .i64 b, .string s, .string t] w fun e w' => e = .returned (.bool true) ∧ Below w.heap.size w w' := by
  by_cases h1 : a < -4611686018427387904
  · have d1 : decide (a < -4611686018427387904) = true := decide_eq_true h1
    clear h1
    go_enter Try.func6, Try.ntmps6
    go_wp2_with fail
    go_ret
    exact ⟨rfl, Below.refl _ _⟩
  have d1 : decide (a < -4611686018427387904) = false := decide_eq_false h1
  by_cases h2 : 4611686018427387904 < a
  · have d2 : decide (4611686018427387904 < a) = true := decide_eq_true h2
    clear h1 h2
    go_enter Try.func6, Try.ntmps6
    go_wp2_with fail
    go_ret
    exact ⟨rfl, Below.refl _ _⟩
  have d2 : decide (4611686018427387904 < a) = false := decide_eq_false h2
  by_cases h3 : b < -4611686018427387904
  · have d3 : decide (b < -4611686018427387904) = true := decide_eq_true h3
    clear h1 h2 h3
    go_enter Try.func6, Try.ntmps6
    go_wp2_with fail
    go_ret
    exact ⟨rfl, Below.refl _ _⟩
  have d3 : decide (b < -4611686018427387904) = false := decide_eq_false h3
  by_cases h4 : 4611686018427387904 < b
  · have d4 : decide (4611686018427387904 < b) = true := decide_eq_true h4
    clear h1 h2 h3 h4
    go_enter Try.func6, Try.ntmps6
    go_wp2_with fail
    go_ret
    exact ⟨rfl, Below.refl _ _⟩
  have d4 : decide (4611686018427387904 < b) = false := decide_eq_false h4
  by_cases h5 : 10 < s.size
  · have d5 : decide (10 < (s.size : Int)) = true := decide_eq_true (by omega)
    clear h1 h2 h3 h4 h5
    go_enter Try.func6, Try.ntmps6
    go_wp2_with fail
    go_ret
    exact ⟨rfl, Below.refl _ _⟩
  have d5 : decide (10 < (s.size : Int)) = false := decide_eq_false (by omega)
  by_cases h6 : 10 < t.size
  · have d6 : decide (10 < (t.size : Int)) = true := decide_eq_true (by omega)
    clear h1 h2 h3 h4 h5 h6
    go_enter Try.func6, Try.ntmps6
    go_wp2_with fail
    go_ret
    exact ⟨rfl, Below.refl _ _⟩
  have d6 : decide (10 < (t.size : Int)) = false := decide_eq_false (by omega)
  have HA := hide (show -4611686018427387904 ≤ a ∧ a ≤ 4611686018427387904 by omega)
  have HB := hide (show -4611686018427387904 ≤ b ∧ b ≤ 4611686018427387904 by omega)
  clear h1 h2 h3 h4
  go_enter Try.func6, Try.ntmps6
  go_wp2_with fail
  clear d1 d2 d3 d4 d5 d6
  go_loop [9] (fun i => ∃ k : Nat, k ≤ s.size ∧ i = .int .i64 k ∧ Hid ((s.data.toList.take k).all strC = true)) (fun i => s.size - (intOf i).toNat)
  case atStart => exact ⟨0, Nat.zero_le _, rfl, hide rfl⟩
  case round =>
    obtain ⟨k, hk, rfl, HS⟩ := hrel
    by_cases hlt : k < s.size
    · by_cases g1 : 32 ≤ (s[k].toNat : Int)
      · have b1 : decide ((s[k].toNat : Int) < 32) = false := by simp; omega
        by_cases g2 : (s[k].toNat : Int) ≤ 126
        · have b2 : decide (126 < (s[k].toNat : Int)) = false := by simp; omega
          have HN : Hid ((s.data.toList.take (k + 1)).all strC = true) := by
            refine hide ?_
            rw [take_snoc s k hlt, List.all_append, unhide HS]
            simp [strC, g1, g2]
          clear g1 g2
          go_wp2_with fail
          go_round
          case rel => exact ⟨k + 1, by omega, by go_num, HN⟩
          case measure => simp [intOf]; omega
        · have b2 : decide (126 < (s[k].toNat : Int)) = true := by simp; omega
          clear g1 g2
          go_wp2_with fail
          go_ret
          exact ⟨rfl, Below.refl _ _⟩
      · have b1 : decide ((s[k].toNat : Int) < 32) = true := by simp; omega
        clear g1
        go_wp2_with fail
        go_ret
        exact ⟨rfl, Below.refl _ _⟩
    · have HSS : Hid (s.data.toList.all strC = true) := hide (by rw [← take_all s k (by omega), unhide HS])
      clear HS
      go_wp2_with fail
      go_loop [10] (fun i => ∃ k : Nat, k ≤ t.size ∧ i = .int .i64 k ∧ Hid ((t.data.toList.take k).all strC = true)) (fun i => t.size - (intOf i).toNat)
      case atStart => exact ⟨0, Nat.zero_le _, rfl, hide rfl⟩
      case round =>
        obtain ⟨k, hk, rfl, HS⟩ := hrel
        by_cases hlt : k < t.size
        · by_cases g1 : 32 ≤ (t[k].toNat : Int)
          · have b1 : decide ((t[k].toNat : Int) < 32) = false := by simp; omega
            by_cases g2 : (t[k].toNat : Int) ≤ 126
            · have b2 : decide (126 < (t[k].toNat : Int)) = false := by simp; omega
              have HN : Hid ((t.data.toList.take (k + 1)).all strC = true) := by
                refine hide ?_
                rw [take_snoc t k hlt, List.all_append, unhide HS]
                simp [strC, g1, g2]
              clear g1 g2
              go_wp2_with fail
              go_round
              case rel => exact ⟨k + 1, by omega, by go_num, HN⟩
              case measure => simp [intOf]; omega
            · have b2 : decide (126 < (t[k].toNat : Int)) = true := by simp; omega
              clear g1 g2
              go_wp2_with fail
              go_ret
              exact ⟨rfl, Below.refl _ _⟩
          · have b1 : decide ((t[k].toNat : Int) < 32) = true := by simp; omega
            clear g1
            go_wp2_with fail
            go_ret
            exact ⟨rfl, Below.refl _ _⟩
        · have HTT : Hid (t.data.toList.all strC = true) := hide (by rw [← take_all t k (by omega), unhide HS])
          clear HS
          obtain ⟨W, hWd, hw0, T0⟩ := nm_of w a b s t
          have HRA := hide (right_int (unhide HA))
          have HRB := hide (right_int (unhide HB))
          have HRS := hide (right_str (show s.size ≤ 10 by omega) (unhide HSS))
          have HRT := hide (right_str (show t.size ≤ 10 by omega) (unhide HTT))
          have hs2 : s.size ≤ 200 := by omega
          have ht2 : t.size ≤ 200 := by omega
          clear HA HB HSS HTT h5 h6
          go_wp2_with fail
          rw [← hWd]
          clear hWd hk hlt
          go_loopw [17] (fun i wr => ∃ k : Nat, 1 ≤ k ∧ k ≤ 5 ∧ i = .int .i64 k ∧ Nm wr w.heap.size (1, a, ⟨#[]⟩) (1, b, ⟨#[]⟩) (3, 0, s) (3, 0, t) (Lib.compareInt a b) (Lib.compareBytes s.data.toList t.data.toList) ∧ Below w.heap.size w wr) (fun i _ => 5 - (intOf i).toNat)
          case atStart => exact ⟨1, by omega, by omega, rfl, T0, hw0⟩
          case round =>
            obtain ⟨k, hk1, hk5, rfl, T, hwr⟩ := hrel
            by_cases hk4 : k ≤ 4
            · have hc : k = 1 ∨ k = 2 ∨ k = 3 ∨ k = 4 := by omega
              clear hk1 hk5 hk4
              rcases hc with rfl | rfl | rfl | rfl
              · have F1 := holds_any 1 (1, a, ⟨#[]⟩) (1, b, ⟨#[]⟩) (sayB 1 (Lib.compareInt a b)) 0 wr (show (0 : Nat) ≤ 200 by decide) (show (0 : Nat) ≤ 200 by decide) (hide (by rw [hold_yes (show wayB 1 = true from rfl) (unhide HRA) (unhide HRB) (Or.inr rfl), cmp_int]))
                obtain ⟨a0, a1, a2, b0, b1, b2⟩ := T.n
                go_wp2_with fail
                refine F1.mono ?_
                rintro e w1 ⟨rfl, hb1⟩
                have T1 := T.on hb1
                have hw1 := bt hwr hb1
                clear F1 T hwr hb1 a0 a1 a2 b0 b1 b2
                have F1 := holds_any 1 (3, 0, s) (3, 0, t) (sayB 1 (Lib.compareBytes s.data.toList t.data.toList)) 0 w1 hs2 ht2 (hide (by rw [hold_yes (show wayB 1 = true from rfl) (unhide HRS) (unhide HRT) (Or.inr rfl), cmp_str]))
                obtain ⟨a0, a1, a2, b0, b1, b2⟩ := T1.s
                go_wp2_with fail
                refine F1.mono ?_
                rintro e w2 ⟨rfl, hb2⟩
                have T2 := T1.on hb2
                have hw2 := bt hw1 hb2
                clear F1 T1 hw1 hb2 a0 a1 a2 b0 b1 b2
                have k1 := T2.c1
                have k2 := T2.d1
                generalize sayB 1 (Lib.compareInt a b) = y at k1
                generalize sayB 1 (Lib.compareBytes s.data.toList t.data.toList) = z at k2
                have ey := bne_self y
                have ez := bne_self z
                go_wp2_with fail
                go_roundw
                case rel => exact ⟨2, by omega, by omega, rfl, T2, hw2⟩
                case measure => simp [intOf]
              · have F1 := holds_any 2 (1, a, ⟨#[]⟩) (1, b, ⟨#[]⟩) (sayB 2 (Lib.compareInt a b)) 0 wr (show (0 : Nat) ≤ 200 by decide) (show (0 : Nat) ≤ 200 by decide) (hide (by rw [hold_yes (show wayB 2 = true from rfl) (unhide HRA) (unhide HRB) (Or.inr rfl), cmp_int]))
                obtain ⟨a0, a1, a2, b0, b1, b2⟩ := T.n
                go_wp2_with fail
                refine F1.mono ?_
                rintro e w1 ⟨rfl, hb1⟩
                have T1 := T.on hb1
                have hw1 := bt hwr hb1
                clear F1 T hwr hb1 a0 a1 a2 b0 b1 b2
                have F1 := holds_any 2 (3, 0, s) (3, 0, t) (sayB 2 (Lib.compareBytes s.data.toList t.data.toList)) 0 w1 hs2 ht2 (hide (by rw [hold_yes (show wayB 2 = true from rfl) (unhide HRS) (unhide HRT) (Or.inr rfl), cmp_str]))
                obtain ⟨a0, a1, a2, b0, b1, b2⟩ := T1.s
                go_wp2_with fail
                refine F1.mono ?_
                rintro e w2 ⟨rfl, hb2⟩
                have T2 := T1.on hb2
                have hw2 := bt hw1 hb2
                clear F1 T1 hw1 hb2 a0 a1 a2 b0 b1 b2
                have k1 := T2.c2
                have k2 := T2.d2
                generalize sayB 2 (Lib.compareInt a b) = y at k1
                generalize sayB 2 (Lib.compareBytes s.data.toList t.data.toList) = z at k2
                have ey := bne_self y
                have ez := bne_self z
                go_wp2_with fail
                go_roundw
                case rel => exact ⟨3, by omega, by omega, rfl, T2, hw2⟩
                case measure => simp [intOf]
              · have F1 := holds_any 3 (1, a, ⟨#[]⟩) (1, b, ⟨#[]⟩) (sayB 3 (Lib.compareInt a b)) 0 wr (show (0 : Nat) ≤ 200 by decide) (show (0 : Nat) ≤ 200 by decide) (hide (by rw [hold_yes (show wayB 3 = true from rfl) (unhide HRA) (unhide HRB) (Or.inr rfl), cmp_int]))
                obtain ⟨a0, a1, a2, b0, b1, b2⟩ := T.n
                go_wp2_with fail
                refine F1.mono ?_
                rintro e w1 ⟨rfl, hb1⟩
                have T1 := T.on hb1
                have hw1 := bt hwr hb1
                clear F1 T hwr hb1 a0 a1 a2 b0 b1 b2
                have F1 := holds_any 3 (3, 0, s) (3, 0, t) (sayB 3 (Lib.compareBytes s.data.toList t.data.toList)) 0 w1 hs2 ht2 (hide (by rw [hold_yes (show wayB 3 = true from rfl) (unhide HRS) (unhide HRT) (Or.inr rfl), cmp_str]))
                obtain ⟨a0, a1, a2, b0, b1, b2⟩ := T1.s
                go_wp2_with fail
                refine F1.mono ?_
                rintro e w2 ⟨rfl, hb2⟩
                have T2 := T1.on hb2
                have hw2 := bt hw1 hb2
                clear F1 T1 hw1 hb2 a0 a1 a2 b0 b1 b2
                have k1 := T2.c3
                have k2 := T2.d3
                generalize sayB 3 (Lib.compareInt a b) = y at k1
                generalize sayB 3 (Lib.compareBytes s.data.toList t.data.toList) = z at k2
                have ey := bne_self y
                have ez := bne_self z
                go_wp2_with fail
                go_roundw
                case rel => exact ⟨4, by omega, by omega, rfl, T2, hw2⟩
                case measure => simp [intOf]
              · have F1 := holds_any 4 (1, a, ⟨#[]⟩) (1, b, ⟨#[]⟩) (sayB 4 (Lib.compareInt a b)) 0 wr (show (0 : Nat) ≤ 200 by decide) (show (0 : Nat) ≤ 200 by decide) (hide (by rw [hold_yes (show wayB 4 = true from rfl) (unhide HRA) (unhide HRB) (Or.inr rfl), cmp_int]))
                obtain ⟨a0, a1, a2, b0, b1, b2⟩ := T.n
                go_wp2_with fail
                refine F1.mono ?_
                rintro e w1 ⟨rfl, hb1⟩
                have T1 := T.on hb1
                have hw1 := bt hwr hb1
                clear F1 T hwr hb1 a0 a1 a2 b0 b1 b2
                have F1 := holds_any 4 (3, 0, s) (3, 0, t) (sayB 4 (Lib.compareBytes s.data.toList t.data.toList)) 0 w1 hs2 ht2 (hide (by rw [hold_yes (show wayB 4 = true from rfl) (unhide HRS) (unhide HRT) (Or.inr rfl), cmp_str]))
                obtain ⟨a0, a1, a2, b0, b1, b2⟩ := T1.s
                go_wp2_with fail
                refine F1.mono ?_
                rintro e w2 ⟨rfl, hb2⟩
                have T2 := T1.on hb2
                have hw2 := bt hw1 hb2
                clear F1 T1 hw1 hb2 a0 a1 a2 b0 b1 b2
                have k1 := T2.c4
                have k2 := T2.d4
                generalize sayB 4 (Lib.compareInt a b) = y at k1
                generalize sayB 4 (Lib.compareBytes s.data.toList t.data.toList) = z at k2
                have ey := bne_self y
                have ez := bne_self z
                go_wp2_with fail
                go_roundw
                case rel => exact ⟨5, by omega, by omega, rfl, T2, hw2⟩
                case measure => simp [intOf]
            · have hk : k = 5 := by omega
              subst hk
              clear hk1 hk5 hk4
              have F1 := holds_any 5 (1, a, ⟨#[]⟩) (1, b, ⟨#[]⟩) false 1 wr (show (0 : Nat) ≤ 200 by decide) (show (0 : Nat) ≤ 200 by decide) (hide (hold_no (Or.inl rfl)))
              obtain ⟨a0, a1, a2, b0, b1, b2⟩ := T.n
              go_wp2_with fail
              refine F1.mono ?_
              rintro e w1 ⟨rfl, hb1⟩
              have T1 := T.on hb1
              have hw1 := bt hwr hb1
              clear F1 T hwr hb1 a0 a1 a2 b0 b1 b2
              have F1 := holds_any 3 (1, a, ⟨#[]⟩) (3, 0, s) false 3 w1 (show (0 : Nat) ≤ 200 by decide) hs2 (hide (hold_kind rfl (unhide HRA) (unhide HRS) rfl (show (1 : Int) ≠ 3 by decide)))
              obtain ⟨a0, a1, a2, -, -, -⟩ := T1.n
              obtain ⟨b0, b1, b2, -, -, -⟩ := T1.s
              go_wp2_with fail
              refine F1.mono ?_
              rintro e w2 ⟨rfl, hb2⟩
              have T2 := T1.on hb2
              have hw2 := bt hw1 hb2
              clear F1 T1 hw1 hb2 a0 a1 a2 b0 b1 b2
              have F1 := holds_any 2 (1, a, ⟨#[]⟩) (3, 0, s) true 0 w2 (show (0 : Nat) ≤ 200 by decide) hs2 (hide (by
                rw [hold_yes (show wayB 2 = true from rfl) (unhide HRA) (unhide HRS) (Or.inl rfl)]
                have hc : cmpVv (1, a, ⟨#[]⟩) (3, 0, s) ≠ 0 := fun e => by have := congrArg Prod.fst ((cmp_zero _ _).1 e); exact absurd this (show (1 : Int) ≠ 3 by decide)
                simp [sayB, hc]))
              obtain ⟨a0, a1, a2, -, -, -⟩ := T2.n
              obtain ⟨b0, b1, b2, -, -, -⟩ := T2.s
              go_wp2_with fail
              refine F1.mono ?_
              rintro e w3 ⟨rfl, hb3⟩
              have hw3 := bt hw2 hb3
              clear F1 T2 hw2 hb3 a0 a1 a2 b0 b1 b2
              go_wp2_with fail
              refine (wakes_any _).mono ?_
              rintro e w4 ⟨rfl, hb4⟩
              have hw4 := bt hw3 hb4
              clear hb4 hw3
              go_wp2_with fail
              go_ret
              exact ⟨rfl, hw4⟩
end Go.Proofs.Ytakhcifhfbiopaa.Sb

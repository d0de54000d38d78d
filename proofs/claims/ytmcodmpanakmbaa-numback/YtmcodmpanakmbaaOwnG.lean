/- The walk of constablelaw02.NumEdges: it answers true, whatever the number. -/
import Derived.Test.YtmcodmpanakmbaaOwnE
namespace Go.Proofs.Ytmcodmpanakmbaa
open Go.RowKit
open N

theorem u64_nonneg (n : Int) : 0 ≤ IntKind.u64.wrap n := by
  simp [IntKind.wrap, IntKind.bits, IntKind.signed]; omega
theorem in_most : inB 4611686018427387904 = true := by decide
theorem sum3 {a b c x y z d e f : Int} (h1 : doL 3 0 a = (x, 0)) (h2 : doL 3 x b = (y, 0)) (h3 : doL 3 y c = (z, f)) (hd : (if f = 0 then (z, 0) else (0, f)) = (d, e)) : sumL 0 [a, b, c] = (d, e) := by
  unfold sumL; rw [h1]; simp only [if_true]
  unfold sumL; rw [h2]; simp only [if_true]
  unfold sumL; rw [h3]; simp only
  split
  · next h => rw [if_pos h] at hd; rw [← hd]; rfl
  · next h => rw [if_neg h] at hd; exact hd
theorem sum2 {a b c x y f : Int} (h1 : doL 3 0 a = (x, 0)) (h2 : doL 3 x b = (y, f)) (hf : f ≠ 0) : sumL 0 [a, b, c] = (0, f) := by
  unfold sumL; rw [h1]; simp only [if_true]
  unfold sumL; rw [h2]; simp only [if_neg hf]

theorem edge_add {a b r : Int} (ha : -4611686018427387904 ≤ a ∧ a ≤ 4611686018427387904) (hb : -4611686018427387904 ≤ b ∧ b ≤ 4611686018427387904) (h : a + b = r) (hr : -4611686018427387904 ≤ r ∧ r ≤ 4611686018427387904) : doL 3 a b = (r, 0) := by
  rw [doL_add (inB_t ha.1 ha.2) (inB_t hb.1 hb.2), h, res_t hr.1 hr.2]
theorem edge_addno {a b : Int} (ha : -4611686018427387904 ≤ a ∧ a ≤ 4611686018427387904) (hb : -4611686018427387904 ≤ b ∧ b ≤ 4611686018427387904) (hr : ¬ (-4611686018427387904 ≤ a + b ∧ a + b ≤ 4611686018427387904)) : doL 3 a b = (0, 4) := by
  rw [doL_add (inB_t ha.1 ha.2) (inB_t hb.1 hb.2), res_f hr]
theorem edge_sub {a b r : Int} (ha : -4611686018427387904 ≤ a ∧ a ≤ 4611686018427387904) (hb : -4611686018427387904 ≤ b ∧ b ≤ 4611686018427387904) (h : a - b = r) (hr : -4611686018427387904 ≤ r ∧ r ≤ 4611686018427387904) : doL 4 a b = (r, 0) := by
  rw [doL_sub (inB_t ha.1 ha.2) (inB_t hb.1 hb.2), h, res_t hr.1 hr.2]
theorem edge_subno {a b : Int} (ha : -4611686018427387904 ≤ a ∧ a ≤ 4611686018427387904) (hb : -4611686018427387904 ≤ b ∧ b ≤ 4611686018427387904) (hr : ¬ (-4611686018427387904 ≤ a - b ∧ a - b ≤ 4611686018427387904)) : doL 4 a b = (0, 4) := by
  rw [doL_sub (inB_t ha.1 ha.2) (inB_t hb.1 hb.2), res_f hr]
theorem edge_mul {m : Int} (h0 : 1 ≤ m) (h1 : m ≤ 1000000) : ∃ c, doL 5 (4611686018427387904 / m) m = (c, 0) ∧ c ≤ 4611686018427387904 := by
  have q0 : 0 ≤ 4611686018427387904 / m := Int.ediv_nonneg (by decide) (by omega)
  have q1 : 4611686018427387904 / m ≤ 4611686018427387904 := Int.ediv_le_self _ (by decide)
  have q2 : 4611686018427387904 / m * m ≤ 4611686018427387904 := Int.ediv_mul_le _ (by omega)
  have q3 : 0 ≤ 4611686018427387904 / m * m := Int.mul_nonneg q0 (by omega)
  exact ⟨_, by rw [doL_mul (inB_t (by omega) (by omega)) (inB_t (by omega) (by omega)), res_t (by omega) (by omega)], q2⟩
theorem edge_mulno {m : Int} (h0 : 1 ≤ m) (h1 : m ≤ 1000000) : doL 5 (4611686018427387904 / m + 1) m = (0, 4) := by
  have q0 : 0 ≤ 4611686018427387904 / m := Int.ediv_nonneg (by decide) (by omega)
  have q1 : 4611686018427387904 / m ≤ 4611686018427387904 := Int.ediv_le_self _ (by decide)
  by_cases hq : 4611686018427387904 / m + 1 ≤ 4611686018427387904
  · have q2 : 4611686018427387904 < (4611686018427387904 / m + 1) * m := Int.lt_ediv_add_one_mul_self _ (by omega)
    rw [doL_mul (inB_t (by omega) hq) (inB_t (by omega) (by omega)), res_f (by omega)]
  · exact doL_out (by decide) (Or.inl (inB_f (by omega)))

set_option maxHeartbeats 1000000 in
theorem edges_any (n : Int) (w : World) : Calls Try.prog 6 #[.int .i64 n] w fun r w' => r = .returned (.bool true) ∧ Below w.heap.size w w' := by
  obtain ⟨u, hu⟩ : ∃ u, IntKind.u64.wrap n = u := ⟨_, rfl⟩
  have u0 : 0 ≤ u := by rw [← hu]; exact u64_nonneg n
  obtain ⟨m, hm⟩ : ∃ m, 1 + u % 1000000 = m := ⟨_, rfl⟩
  have m0 : 1 ≤ m := by omega
  have m1 : m ≤ 1000000 := by omega
  obtain ⟨c, hc, hc'⟩ := edge_mul m0 m1
  have q0 : 0 ≤ 4611686018427387904 / m := Int.ediv_nonneg (by decide) (by omega)
  have q1 : 4611686018427387904 / m ≤ 4611686018427387904 := Int.ediv_le_self _ (by decide)
  have HC := hide hc
  clear hc
  have H8 : Hid (sumL 0 [4611686018427387904, -m, m] = (4611686018427387904, 0)) := hide (sum3 (x := 4611686018427387904) (y := 4611686018427387904 - m) (z := 4611686018427387904) (f := 0) (edge_add (by omega) (by omega) (by omega) (by omega)) (edge_add (by omega) (by omega) (by omega) (by omega)) (edge_add (by omega) (by omega) (by omega) (by omega)) rfl)
  have H9 : Hid (sumL 0 [4611686018427387904, m, -m] = (0, 4)) := hide (sum2 (x := 4611686018427387904) (y := 0) (edge_add (by omega) (by omega) (by omega) (by omega)) (edge_addno (by omega) (by omega) (by omega)) (by decide))
  go_enter Try.func6, Try.ntmps6
  go_wp2_with fail
  refine (do_any 3 (4611686018427387904 - m) m 4611686018427387904 0 _ (hide (edge_add (by omega) (by omega) (by omega) (by omega)))).mono ?_; rintro r w' ⟨rfl, rfl⟩
  go_wp2_with fail
  refine (do_any 3 (4611686018427387904 - m) (m + 1) 0 4 _ (hide (edge_addno (by omega) (by omega) (by omega)))).mono ?_; rintro r w' ⟨rfl, rfl⟩
  go_wp2_with fail
  refine (do_any 4 (-4611686018427387904 + m) m (-4611686018427387904) 0 _ (hide (edge_sub (by omega) (by omega) (by omega) (by omega)))).mono ?_; rintro r w' ⟨rfl, rfl⟩
  go_wp2_with fail
  refine (do_any 4 (-4611686018427387904 + m) (m + 1) 0 4 _ (hide (edge_subno (by omega) (by omega) (by omega)))).mono ?_; rintro r w' ⟨rfl, rfl⟩
  go_wp2_with fail
  refine (do_any 5 (4611686018427387904 / m) m c 0 _ HC).mono ?_; rintro r w' ⟨rfl, rfl⟩
  go_wp2_with fail
  refine (do_any 5 (4611686018427387904 / m + 1) m 0 4 _ (hide (edge_mulno m0 m1))).mono ?_; rintro r w' ⟨rfl, rfl⟩
  go_wp2_with fail
  refine (do_any 5 (-4611686018427387904) (-1) 4611686018427387904 0 _ (hide (by decide))).mono ?_; rintro r w' ⟨rfl, rfl⟩
  go_wp2_with fail
  refine (sum_three 4611686018427387904 (-m) m 4611686018427387904 0 _ H8).mono ?_; rintro r w1 ⟨rfl, hw1⟩
  have k1 : Below w'.heap.size w' w1 := by rw [hw1]; exact (Below.refl _ _).alloc (Nat.le_refl _) _
  clear hw1
  go_wp2_with fail
  refine (sum_three 4611686018427387904 m (-m) 0 4 _ H9).mono ?_; rintro r w2 ⟨rfl, hw2⟩
  have k2 : Below w1.heap.size w1 w2 := by rw [hw2]; exact (Below.refl _ _).alloc (Nat.le_refl _) _
  clear hw2
  go_wp2_with (go_at_call 10; refine (wakes_any _).mono ?_; rintro r w3 ⟨rfl, k3⟩)
  go_ret
  exact ⟨rfl, bt (bt k1 k2) k3⟩
end Go.Proofs.Ytmcodmpanakmbaa

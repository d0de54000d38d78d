/- The walk of constablelaw02.NumTurn: it answers true, whatever the numbers. -/
import Derived.Test.YtmcodmpanakmbaaOwnE
namespace Go.Proofs.Ytmcodmpanakmbaa
open Go.RowKit
open N

theorem doL_comm_add (a b : Int) : doL 3 b a = doL 3 a b := by
  unfold doL
  rw [Int.add_comm b a]
  by_cases ha : inB a = true <;> by_cases hb : inB b = true <;> simp [ha, hb]
theorem doL_comm_mul (a b : Int) : doL 5 b a = doL 5 a b := by
  unfold doL
  rw [Int.mul_comm b a]
  by_cases ha : inB a = true <;> by_cases hb : inB b = true <;> simp [ha, hb]
theorem inB_neg {b : Int} (h0 : -4611686018427387904 ≤ b) (h1 : b ≤ 4611686018427387904) : inB (-b) = inB b := by
  rw [inB_t h0 h1, inB_t (by omega) (by omega)]
theorem doL_turn (a b : Int) (h0 : -4611686018427387904 ≤ b) (h1 : b ≤ 4611686018427387904) : doL 4 a (-b) = doL 3 a b := by
  unfold doL
  rw [inB_neg h0 h1, Int.sub_neg]
  simp
theorem doL_far (a b : Int) (h : ¬ (-4611686018427387904 ≤ b ∧ b ≤ 4611686018427387904)) : doL 3 a b = (0, 4) := doL_out (Or.inl rfl) (Or.inr (inB_f h))

set_option maxHeartbeats 1000000 in
theorem turn_walk (a b x e p g : Int) (w : World) (H1 : Hid (doL 3 a b = (x, e))) (H2 : Hid (doL 3 b a = (x, e))) (H3 : Hid (doL 5 a b = (p, g))) (H4 : Hid (doL 5 b a = (p, g)))
    (hb : (b < -4611686018427387904 ∧ e = 4) ∨ (-4611686018427387904 ≤ b ∧ 4611686018427387904 < b ∧ e = 4) ∨ (-4611686018427387904 ≤ b ∧ b ≤ 4611686018427387904 ∧ Hid (doL 4 a (-b) = (x, e)))) :
    Calls Try.prog 5 #[.int .i64 a, .int .i64 b] w fun r w' => r = .returned (.bool true) ∧ Below w.heap.size w w' := by
  have H5 : Hid (doL 0 a b = (0, 3)) := hide (doL_kind a b (by omega))
  have H6 : Hid (doL 2 a b = (0, 3)) := hide (doL_kind a b (by omega))
  rcases hb with ⟨b0, rfl⟩ | ⟨b0, b1, rfl⟩ | ⟨b0, b1, H7⟩
  all_goals
    go_enter Try.func5, Try.ntmps5
    go_wp2_with fail
    refine (do_any 3 a b _ _ _ H1).mono ?_; rintro r w' ⟨rfl, rfl⟩
    go_wp2_with fail
    refine (do_any 3 b a _ _ _ H2).mono ?_; rintro r w' ⟨rfl, rfl⟩
    go_wp2_with fail
    refine (do_any 5 a b _ _ _ H3).mono ?_; rintro r w' ⟨rfl, rfl⟩
    go_wp2_with fail
    refine (do_any 5 b a _ _ _ H4).mono ?_; rintro r w' ⟨rfl, rfl⟩
    go_wp2_with fail
    refine (do_any 0 a b 0 3 _ H5).mono ?_; rintro r w' ⟨rfl, rfl⟩
    go_wp2_with fail
    refine (do_any 2 a b 0 3 _ H6).mono ?_; rintro r w' ⟨rfl, rfl⟩
  all_goals
    go_wp2_with (first | (go_at_call 7; refine (do_any 4 a (-b) _ _ _ H7).mono ?_; rintro r w' ⟨rfl, rfl⟩) | (go_at_call 10; refine (wakes_any _).mono ?_; rintro r w1 ⟨rfl, k1⟩))
    go_ret
    exact ⟨rfl, k1⟩

theorem turn_any (a b : Int) (w : World) : Calls Try.prog 5 #[.int .i64 a, .int .i64 b] w fun r w' => r = .returned (.bool true) ∧ Below w.heap.size w w' := by
  obtain ⟨x, e, h⟩ : ∃ x e, doL 3 a b = (x, e) := ⟨_, _, rfl⟩
  obtain ⟨p, g, h'⟩ : ∃ x e, doL 5 a b = (x, e) := ⟨_, _, rfl⟩
  refine turn_walk a b x e p g w (hide h) (hide ((doL_comm_add a b).trans h)) (hide h') (hide ((doL_comm_mul a b).trans h')) ?_
  by_cases h0 : -4611686018427387904 ≤ b
  · by_cases h1 : b ≤ 4611686018427387904
    · exact Or.inr (Or.inr ⟨h0, h1, hide ((doL_turn a b h0 h1).trans h)⟩)
    · have := (doL_far a b (by omega)).symm.trans h
      cases this
      exact Or.inr (Or.inl ⟨h0, by omega, rfl⟩)
  · have := (doL_far a b (by omega)).symm.trans h
    cases this
    exact Or.inl ⟨by omega, rfl⟩
end Go.Proofs.Ytmcodmpanakmbaa

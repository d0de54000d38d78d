/- What the functions of package num return: within, size, add, mul, Do. -/
import Derived.Test.YtakhcifhfbiopaaRows
import Derived.Test.YtakhcifhfbiopaaNumA
import Derived.WalkKit
import Derived.WalkSpells
import Derived.WalkLawsBesides
namespace Go.Proofs.Ytakhcifhfbiopaa.N
open Go.RowKit

theorem ret_bool {a b : Bool} (h : b = a) : Ending.returned (.bool a) = .returned (.bool b) := by rw [h]
theorem ret_int {k : IntKind} {a b : Int} (h : a = b) : Ending.returned (.int k a) = .returned (.int k b) := by rw [h]
theorem ret_two {a b v e : Int} (h : (a, b) = (v, e)) : Ending.returned (.tuple #[.int .i64 a, .int .i64 b]) = .returned (.tuple #[.int .i64 v, .int .i64 e]) := by
  cases h; rfl

set_option maxHeartbeats 400000 in
theorem within_any (n : Int) (w : World) : Calls Try.prog 70 #[.int .i64 n] w fun e w' => e = .returned (.bool (inB n)) ∧ w' = w := by
  by_cases ha : -4611686018427387904 ≤ n
  · by_cases hb : n ≤ 4611686018427387904
    · rw [inB_t ha hb]
      go_enter Try.func70, Try.ntmps70
      go_wp2
      go_ret
      exact ⟨rfl, rfl⟩
    · rw [inB_f (by omega)]
      go_enter Try.func70, Try.ntmps70
      go_wp2
      go_ret
      exact ⟨rfl, rfl⟩
  · rw [inB_f (by omega)]
    go_enter Try.func70, Try.ntmps70
    go_wp2
    go_ret
    exact ⟨rfl, rfl⟩

set_option maxHeartbeats 400000 in
theorem size_any (n : Int) (w : World) (h0 : -4611686018427387904 ≤ n) (h1 : n ≤ 4611686018427387904) : Calls Try.prog 73 #[.int .i64 n] w fun e w' => e = .returned (.int .i64 (siz n)) ∧ w' = w := by
  by_cases ha : 0 ≤ n
  · rw [siz_pos ha]
    go_enter Try.func73, Try.ntmps73
    go_wp2
    go_ret
    exact ⟨ret_int (by omega), rfl⟩
  · rw [siz_neg ha]
    go_enter Try.func73, Try.ntmps73
    go_wp2
    go_ret
    exact ⟨ret_int (by omega), rfl⟩

set_option maxHeartbeats 400000 in
theorem add_any (a b v e : Int) (w : World) (a0 : -4611686018427387904 ≤ a) (a1 : a ≤ 4611686018427387904) (b0 : -4611686018427387904 ≤ b) (b1 : b ≤ 4611686018427387904) (h : Hid (res (a + b) = (v, e))) :
    Calls Try.prog 71 #[.int .i64 a, .int .i64 b] w fun r w' => r = .returned (.tuple #[.int .i64 v, .int .i64 e]) ∧ w' = w := by
  by_cases hb : 0 < b
  · by_cases hc : 4611686018427387904 - b < a
    · have H := hide ((res_f (r := a + b) (by omega)).symm.trans (unhide h))
      go_enter Try.func71, Try.ntmps71
      go_wp2
      go_ret2
      exact ⟨ret_two (unhide H), rfl⟩
    · have H := hide ((res_t (r := a + b) (by omega) (by omega)).symm.trans (unhide h))
      go_enter Try.func71, Try.ntmps71
      go_wp2
      go_ret2
      exact ⟨ret_two (unhide H), rfl⟩
  · by_cases hb' : b < 0
    · by_cases hc : a < -4611686018427387904 - b
      · have H := hide ((res_f (r := a + b) (by omega)).symm.trans (unhide h))
        go_enter Try.func71, Try.ntmps71
        go_wp2
        go_ret2
        exact ⟨ret_two (unhide H), rfl⟩
      · have H := hide ((res_t (r := a + b) (by omega) (by omega)).symm.trans (unhide h))
        go_enter Try.func71, Try.ntmps71
        go_wp2
        go_ret2
        exact ⟨ret_two (unhide H), rfl⟩
    · have H := hide ((res_t (r := a + b) (by omega) (by omega)).symm.trans (unhide h))
      go_enter Try.func71, Try.ntmps71
      go_wp2
      go_ret2
      exact ⟨ret_two (unhide H), rfl⟩

set_option maxHeartbeats 400000 in
theorem mul_any (a b v e : Int) (w : World) (a0 : -4611686018427387904 ≤ a) (a1 : a ≤ 4611686018427387904) (b0 : -4611686018427387904 ≤ b) (b1 : b ≤ 4611686018427387904) (h : Hid (res (a * b) = (v, e))) :
    Calls Try.prog 72 #[.int .i64 a, .int .i64 b] w fun r w' => r = .returned (.tuple #[.int .i64 v, .int .i64 e]) ∧ w' = w := by
  by_cases ha : a = 0
  · have hd : (a != 0) = false := by simp [ha]
    have H := hide ((res_t (r := a * b) (by rw [ha]; simp) (by rw [ha]; simp)).symm.trans (unhide h))
    have hm : wrap64 (a * b) = a * b := IntWalk.wrap64_in _ ⟨by rw [ha]; simp, by rw [ha]; simp⟩
    clear ha h
    go_enter Try.func72, Try.ntmps72
    go_wp2
    go_ret2
    exact ⟨ret_two (by first | exact unhide H | (rw [hm]; exact unhide H)), rfl⟩
  · have hd : (a != 0) = true := by simp [ha]
    have hq := quo_bd ha
    have pa : 0 < siz a := by unfold siz; split <;> omega
    have sb : 0 ≤ siz b ∧ siz b ≤ 4611686018427387904 := by unfold siz; split <;> omega
    have hi := mul_in (b := b) ha
    by_cases hc : siz b ≤ 4611686018427387904 / siz a
    · have hr := hi.1 hc
      have H := hide ((res_t (r := a * b) hr.1 hr.2).symm.trans (unhide h))
      have hm : wrap64 (a * b) = a * b := IntWalk.wrap64_in _ ⟨by omega, by omega⟩
      have hg : decide (4611686018427387904 / siz a < siz b) = false := decide_eq_false (by omega)
      have HM := hide hm
      clear h ha hr hi hc hm
      go_enter Try.func72, Try.ntmps72
      go_wp2_with (go_at_call 73; refine (size_any _ _ (by omega) (by omega)).mono ?_; rintro r w' ⟨rfl, rfl⟩)
      go_ret2
      exact ⟨ret_two (by first | exact unhide H | (rw [unhide HM]; exact unhide H)), rfl⟩
    · have H := hide ((res_f (r := a * b) (fun hr => hc (hi.2 hr))).symm.trans (unhide h))
      have hg : decide (4611686018427387904 / siz a < siz b) = true := decide_eq_true (by omega)
      clear h ha hi hc
      go_enter Try.func72, Try.ntmps72
      go_wp2_with (go_at_call 73; refine (size_any _ _ (by omega) (by omega)).mono ?_; rintro r w' ⟨rfl, rfl⟩)
      go_ret2
      exact ⟨ret_two (unhide H), rfl⟩
end Go.Proofs.Ytakhcifhfbiopaa.N

/- What num.Do and the document's own Do (constableref01) return. -/
import Derived.Test.YtakhcifhfbiopaaNumB
namespace Go.Proofs.Ytakhcifhfbiopaa.N
open Go.RowKit

set_option maxHeartbeats 400000 in
theorem do_kind (k a b : Int) (w : World) (h : ¬ (k = 3 ∨ k = 4 ∨ k = 5)) :
    Calls Try.prog 68 #[.int .i64 k, .int .i64 a, .int .i64 b] w fun r w' => r = .returned (.tuple #[.int .i64 0, .int .i64 3]) ∧ w' = w := by
  have h3 : (k != 3) = true := by simp; omega
  have h4 : (k != 4) = true := by simp; omega
  have h5 : (k != 5) = true := by simp; omega
  clear h
  go_enter Try.func68, Try.ntmps68
  go_wp2
  go_ret2
  exact ⟨rfl, rfl⟩

set_option maxHeartbeats 400000 in
theorem do_out (k a b : Int) (w : World) (h : k = 3 ∨ k = 4 ∨ k = 5) (hb : inB a = false ∨ inB a = true ∧ inB b = false) :
    Calls Try.prog 68 #[.int .i64 k, .int .i64 a, .int .i64 b] w fun r w' => r = .returned (.tuple #[.int .i64 0, .int .i64 4]) ∧ w' = w := by
  rcases h with rfl | rfl | rfl <;> rcases hb with hb | ⟨hb, hc⟩
  all_goals
    go_enter Try.func68, Try.ntmps68
    go_wp2_with (go_at_call 70; refine (within_any _ _).mono ?_; rintro r w' ⟨rfl, rfl⟩)
    go_ret2
    exact ⟨rfl, rfl⟩

set_option maxHeartbeats 400000 in
theorem do_in (k a b v e : Int) (w : World) (h : k = 3 ∨ k = 4 ∨ k = 5) (ha : inB a = true) (hb : inB b = true) (hr : Hid (doL k a b = (v, e))) :
    Calls Try.prog 68 #[.int .i64 k, .int .i64 a, .int .i64 b] w fun r w' => r = .returned (.tuple #[.int .i64 v, .int .i64 e]) ∧ w' = w := by
  obtain ⟨a0, a1⟩ := inB_p ha
  obtain ⟨b0, b1⟩ := inB_p hb
  rcases h with rfl | rfl | rfl
  · have H := hide ((doL_add ha hb).symm.trans (unhide hr))
    clear hr
    go_enter Try.func68, Try.ntmps68
    go_wp2_with (first | (go_at_call 70; refine (within_any _ _).mono ?_; rintro r w' ⟨rfl, rfl⟩) | (go_at_call 71; refine (add_any a b v e _ a0 a1 b0 b1 H).mono ?_; rintro r w' ⟨rfl, rfl⟩))
    go_ret2
    exact ⟨rfl, rfl⟩
  · have H := hide ((doL_sub ha hb).symm.trans (unhide hr))
    have H' : Hid (res (a + -b) = (v, e)) := H
    clear hr
    go_enter Try.func68, Try.ntmps68
    go_wp2_with (first | (go_at_call 70; refine (within_any _ _).mono ?_; rintro r w' ⟨rfl, rfl⟩) | (go_at_call 71; refine (add_any a (-b) v e _ a0 a1 (by omega) (by omega) H').mono ?_; rintro r w' ⟨rfl, rfl⟩))
    go_ret2
    exact ⟨rfl, rfl⟩
  · have H := hide ((doL_mul ha hb).symm.trans (unhide hr))
    clear hr
    go_enter Try.func68, Try.ntmps68
    go_wp2_with (first | (go_at_call 70; refine (within_any _ _).mono ?_; rintro r w' ⟨rfl, rfl⟩) | (go_at_call 72; refine (mul_any a b v e _ a0 a1 b0 b1 H).mono ?_; rintro r w' ⟨rfl, rfl⟩))
    go_ret2
    exact ⟨rfl, rfl⟩

theorem do_any (k a b v e : Int) (w : World) (hr : Hid (doL k a b = (v, e))) :
    Calls Try.prog 68 #[.int .i64 k, .int .i64 a, .int .i64 b] w fun r w' => r = .returned (.tuple #[.int .i64 v, .int .i64 e]) ∧ w' = w := by
  by_cases h : k = 3 ∨ k = 4 ∨ k = 5
  · by_cases hb : inB a = true ∧ inB b = true
    · exact do_in k a b v e w h hb.1 hb.2 hr
    · have hb' : inB a = false ∨ inB a = true ∧ inB b = false := by
        cases ha : inB a
        · exact Or.inl rfl
        · exact Or.inr ⟨rfl, by cases hx : inB b; rfl; exact absurd ⟨ha, hx⟩ hb⟩
      have := (doL_out (k := k) (a := a) (b := b) h (hb'.imp id (·.2))).symm.trans (unhide hr)
      cases this
      exact do_out k a b w h hb'
  · have := (doL_kind a b h).symm.trans (unhide hr)
    cases this
    exact do_kind k a b w h

/- The document's own. -/
set_option maxHeartbeats 400000 in
theorem refIn_any (n : Int) (w : World) : Calls Try.prog 30 #[.int .i64 n, .int .i64 (-4611686018427387904), .int .i64 4611686018427387904] w fun e w' => e = .returned (.bool (inB n)) ∧ w' = w := by
  by_cases ha : -4611686018427387904 ≤ n
  · by_cases hb : n ≤ 4611686018427387904
    · rw [inB_t ha hb]
      go_enter Try.func30, Try.ntmps30
      go_wp2
      go_ret
      exact ⟨rfl, rfl⟩
    · rw [inB_f (by omega)]
      go_enter Try.func30, Try.ntmps30
      go_wp2
      go_ret
      exact ⟨rfl, rfl⟩
  · rw [inB_f (by omega)]
    go_enter Try.func30, Try.ntmps30
    go_wp2
    go_ret
    exact ⟨rfl, rfl⟩

set_option maxHeartbeats 400000 in
theorem ref_kind (k a b : Int) (w : World) (h : ¬ (k = 3 ∨ k = 4 ∨ k = 5)) :
    Calls Try.prog 54 #[.int .i64 k, .int .i64 a, .int .i64 b] w fun r w' => r = .returned (.tuple #[.int .i64 0, .int .i64 3]) ∧ w' = w := by
  have h3 : (k != 3) = true := by simp; omega
  have h4 : (k != 4) = true := by simp; omega
  have h5 : (k != 5) = true := by simp; omega
  clear h
  go_enter Try.func54, Try.ntmps54
  go_wp2
  go_ret2
  exact ⟨rfl, rfl⟩

set_option maxHeartbeats 400000 in
theorem ref_out (k a b : Int) (w : World) (h : k = 3 ∨ k = 4 ∨ k = 5) (hb : inB a = false ∨ inB a = true ∧ inB b = false) :
    Calls Try.prog 54 #[.int .i64 k, .int .i64 a, .int .i64 b] w fun r w' => r = .returned (.tuple #[.int .i64 0, .int .i64 4]) ∧ w' = w := by
  rcases h with rfl | rfl | rfl <;> rcases hb with hb | ⟨hb, hc⟩
  all_goals
    go_enter Try.func54, Try.ntmps54
    go_wp2_with (go_at_call 30; refine (refIn_any _ _).mono ?_; rintro r w' ⟨rfl, rfl⟩)
    go_ret2
    exact ⟨rfl, rfl⟩

theorem add_cases {a b : Int} {v e : Int} (a0 : -4611686018427387904 ≤ a) (a1 : a ≤ 4611686018427387904) (hr : res (a + b) = (v, e)) :
    (0 < b ∧ 4611686018427387904 - b < a ∧ (0, 4) = (v, e)) ∨ (0 < b ∧ a ≤ 4611686018427387904 - b ∧ (a + b, 0) = (v, e)) ∨ (b < 0 ∧ a < -4611686018427387904 - b ∧ (0, 4) = (v, e)) ∨ (b < 0 ∧ -4611686018427387904 - b ≤ a ∧ (a + b, 0) = (v, e)) ∨ (b = 0 ∧ (a, 0) = (v, e)) := by
  by_cases hi : -4611686018427387904 ≤ a + b ∧ a + b ≤ 4611686018427387904
  · rw [res_t hi.1 hi.2] at hr
    by_cases hz : b = 0
    · subst hz
      rw [Int.add_zero] at hr
      exact Or.inr (Or.inr (Or.inr (Or.inr ⟨rfl, hr⟩)))
    · simp only [hr, and_true]
      omega
  · rw [res_f hi] at hr
    simp only [hr, and_true]
    omega

set_option maxHeartbeats 800000 in
theorem ref_add (a b v e : Int) (w : World) (ha : inB a = true) (hb : inB b = true) (hr : Hid (res (a + b) = (v, e))) :
    Calls Try.prog 54 #[.int .i64 3, .int .i64 a, .int .i64 b] w fun r w' => r = .returned (.tuple #[.int .i64 v, .int .i64 e]) ∧ w' = w := by
  obtain ⟨a0, a1⟩ := inB_p ha
  obtain ⟨b0, b1⟩ := inB_p hb
  have hx := add_cases a0 a1 (unhide hr)
  clear hr
  rcases hx with ⟨t1, t2, H⟩ | ⟨t1, t2, H⟩ | ⟨t1, t2, H⟩ | ⟨t1, t2, H⟩ | ⟨t1, H⟩
  all_goals
    replace H := hide H
    go_enter Try.func54, Try.ntmps54
    go_wp2_with (go_at_call 30; refine (refIn_any _ _).mono ?_; rintro r w' ⟨rfl, rfl⟩)
    go_ret2
    exact ⟨ret_two (unhide H), rfl⟩

set_option maxHeartbeats 800000 in
theorem ref_sub (a b v e : Int) (w : World) (ha : inB a = true) (hb : inB b = true) (hr : Hid (res (a - b) = (v, e))) :
    Calls Try.prog 54 #[.int .i64 4, .int .i64 a, .int .i64 b] w fun r w' => r = .returned (.tuple #[.int .i64 v, .int .i64 e]) ∧ w' = w := by
  obtain ⟨a0, a1⟩ := inB_p ha
  obtain ⟨b0, b1⟩ := inB_p hb
  have hx := add_cases (a := a) (b := -b) a0 a1 (unhide hr)
  clear hr
  rcases hx with ⟨t1, t2, H⟩ | ⟨t1, t2, H⟩ | ⟨t1, t2, H⟩ | ⟨t1, t2, H⟩ | ⟨t1, H⟩
  all_goals
    replace H := hide H
    go_enter Try.func54, Try.ntmps54
    go_wp2_with (go_at_call 30; refine (refIn_any _ _).mono ?_; rintro r w' ⟨rfl, rfl⟩)
    go_ret2
    exact ⟨ret_two (unhide H), rfl⟩

set_option maxHeartbeats 800000 in
theorem ref_mul0 (a b v e : Int) (w : World) (ha : inB a = true) (hb : inB b = true) (hz : a = 0 ∨ a ≠ 0 ∧ b = 0) (hr : Hid (res (a * b) = (v, e))) :
    Calls Try.prog 54 #[.int .i64 5, .int .i64 a, .int .i64 b] w fun r w' => r = .returned (.tuple #[.int .i64 v, .int .i64 e]) ∧ w' = w := by
  rcases hz with rfl | ⟨h, rfl⟩
  · have H : Hid (((0 : Int), (0 : Int)) = (v, e)) := by rw [← unhide hr, Int.zero_mul]; exact hide rfl
    clear hr
    go_enter Try.func54, Try.ntmps54
    go_wp2_with (go_at_call 30; refine (refIn_any _ _).mono ?_; rintro r w' ⟨rfl, rfl⟩)
    go_ret2
    exact ⟨ret_two (by simpa using unhide H), rfl⟩
  · have H : Hid (((0 : Int), (0 : Int)) = (v, e)) := by rw [← unhide hr, Int.mul_zero]; exact hide rfl
    have hd : (a != 0) = true := by simp [h]
    clear hr h
    go_enter Try.func54, Try.ntmps54
    go_wp2_with (go_at_call 30; refine (refIn_any _ _).mono ?_; rintro r w' ⟨rfl, rfl⟩)
    go_ret2
    exact ⟨ret_two (by simpa using unhide H), rfl⟩

theorem neg_quo {b : Int} (h : b < 0) : wrap64 (-Int.tdiv 4611686018427387904 b) = 4611686018427387904 / -b := by
  have e : -Int.tdiv 4611686018427387904 b = 4611686018427387904 / -b := by
    rw [← Int.tdiv_neg, Int.tdiv_eq_ediv_of_nonneg (by decide)]
  rw [e]
  have h0 : 0 ≤ 4611686018427387904 / -b := Int.ediv_nonneg (by decide) (by omega)
  have h1 : 4611686018427387904 / -b ≤ 4611686018427387904 := Int.ediv_le_self _ (by decide)
  exact IntWalk.wrap64_in _ ⟨by omega, by omega⟩

set_option maxHeartbeats 800000 in
theorem ref_mul1 (a b : Int) (w : World) (ha : inB a = true) (hb : inB b = true) (da : (a != 0) = true) (db : (b != 0) = true) (sa sb : Int)
    (ca : 0 ≤ a ∧ sa = a ∨ a < 0 ∧ sa = -a) (cb : 0 < b ∧ sb = b ∨ b < 0 ∧ sb = -b) (hg : decide (4611686018427387904 / sb < sa) = true) :
    Calls Try.prog 54 #[.int .i64 5, .int .i64 a, .int .i64 b] w fun r w' => r = .returned (.tuple #[.int .i64 0, .int .i64 4]) ∧ w' = w := by
  obtain ⟨a0, a1⟩ := inB_p ha
  obtain ⟨b0, b1⟩ := inB_p hb
  rcases ca with ⟨ca, rfl⟩ | ⟨ca, rfl⟩ <;> rcases cb with ⟨cb, rfl⟩ | ⟨cb, rfl⟩
  all_goals
    try rw [← neg_quo cb] at hg
    go_enter Try.func54, Try.ntmps54
    go_wp2_with (go_at_call 30; refine (refIn_any _ _).mono ?_; rintro r w' ⟨rfl, rfl⟩)
    go_ret2
    exact ⟨rfl, rfl⟩

set_option maxHeartbeats 800000 in
theorem ref_mul2 (a b : Int) (w : World) (ha : inB a = true) (hb : inB b = true) (da : (a != 0) = true) (db : (b != 0) = true) (sa sb : Int) (HM : Hid (wrap64 (a * b) = a * b))
    (ca : 0 ≤ a ∧ sa = a ∨ a < 0 ∧ sa = -a) (cb : 0 < b ∧ sb = b ∨ b < 0 ∧ sb = -b) (hg : decide (4611686018427387904 / sb < sa) = false) :
    Calls Try.prog 54 #[.int .i64 5, .int .i64 a, .int .i64 b] w fun r w' => r = .returned (.tuple #[.int .i64 (a * b), .int .i64 0]) ∧ w' = w := by
  obtain ⟨a0, a1⟩ := inB_p ha
  obtain ⟨b0, b1⟩ := inB_p hb
  rcases ca with ⟨ca, rfl⟩ | ⟨ca, rfl⟩ <;> rcases cb with ⟨cb, rfl⟩ | ⟨cb, rfl⟩
  all_goals
    try rw [← neg_quo cb] at hg
    go_enter Try.func54, Try.ntmps54
    go_wp2_with (go_at_call 30; refine (refIn_any _ _).mono ?_; rintro r w' ⟨rfl, rfl⟩)
    go_ret2
    exact ⟨ret_two (by first | rfl | rw [unhide HM]), rfl⟩

theorem ref_any (k a b v e : Int) (w : World) (hr : Hid (doL k a b = (v, e))) :
    Calls Try.prog 54 #[.int .i64 k, .int .i64 a, .int .i64 b] w fun r w' => r = .returned (.tuple #[.int .i64 v, .int .i64 e]) ∧ w' = w := by
  by_cases h : k = 3 ∨ k = 4 ∨ k = 5
  · by_cases hb : inB a = true ∧ inB b = true
    · obtain ⟨ha, hb⟩ := hb
      rcases h with rfl | rfl | rfl
      · exact ref_add a b v e w ha hb (hide ((doL_add ha hb).symm.trans (unhide hr)))
      · exact ref_sub a b v e w ha hb (hide ((doL_sub ha hb).symm.trans (unhide hr)))
      · have H := (doL_mul ha hb).symm.trans (unhide hr)
        by_cases za : a = 0
        · exact ref_mul0 a b v e w ha hb (Or.inl za) (hide H)
        · by_cases zb : b = 0
          · exact ref_mul0 a b v e w ha hb (Or.inr ⟨za, zb⟩) (hide H)
          · have da : (a != 0) = true := by simp [za]
            have db : (b != 0) = true := by simp [zb]
            have ca : 0 ≤ a ∧ siz a = a ∨ a < 0 ∧ siz a = -a := by unfold siz; split <;> omega
            have cb : 0 < b ∧ siz b = b ∨ b < 0 ∧ siz b = -b := by unfold siz; split <;> omega
            have hi := mul_in (a := b) (b := a) zb
            rw [Int.mul_comm b a] at hi
            by_cases hc : siz a ≤ 4611686018427387904 / siz b
            · have hq := hi.1 hc
              rw [res_t hq.1 hq.2] at H
              cases H
              exact ref_mul2 a b w ha hb da db (siz a) (siz b) (hide (IntWalk.wrap64_in _ ⟨by omega, by omega⟩)) ca cb (decide_eq_false (by omega))
            · rw [res_f (fun hq => hc (hi.2 hq))] at H
              cases H
              exact ref_mul1 a b w ha hb da db (siz a) (siz b) ca cb (decide_eq_true (by omega))
    · have hb' : inB a = false ∨ inB a = true ∧ inB b = false := by
        cases ha : inB a
        · exact Or.inl rfl
        · exact Or.inr ⟨rfl, by cases hx : inB b; rfl; exact absurd ⟨ha, hx⟩ hb⟩
      have := (doL_out (k := k) (a := a) (b := b) h (hb'.imp id (·.2))).symm.trans (unhide hr)
      cases this
      exact ref_out k a b w h hb'
  · have := (doL_kind a b h).symm.trans (unhide hr)
    cases this
    exact ref_kind k a b w h
end Go.Proofs.Ytakhcifhfbiopaa.N

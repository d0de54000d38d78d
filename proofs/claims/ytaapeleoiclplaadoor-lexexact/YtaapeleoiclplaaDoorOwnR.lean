/- What the document's own functions (constableref01) for values return: In, Lower, Upper, Digit, inner, Word, order, Strings, Values, Value. -/
import Derived.Test.YtaapeleoiclplaaDoorOwnD
import Derived.Test.YtaapeleoiclplaaDoorOwnO
namespace Go.Proofs.YtaapeleoiclplaaDoor
open Go.RowKit
open V

set_option maxHeartbeats 400000 in
theorem refDigit_any (c : Int) (w : World) (h0 : 0 ≤ c) (h1 : c ≤ 255) :
    Calls Tryd.prog 41 #[.int .u8 c] w fun e w' => e = .returned (.bool (digB c)) ∧ w' = w := by
  by_cases ha : 48 ≤ c
  · by_cases hb : c ≤ 57
    · rw [digB_t ha hb]
      go_enter Tryd.func41, Tryd.ntmps41
      go_wp2
      go_ret
      exact ⟨rfl, rfl⟩
    · rw [digB_f (by omega)]
      go_enter Tryd.func41, Tryd.ntmps41
      go_wp2
      go_ret
      exact ⟨rfl, rfl⟩
  · rw [digB_f (by omega)]
    go_enter Tryd.func41, Tryd.ntmps41
    go_wp2
    go_ret
    exact ⟨rfl, rfl⟩
theorem refDigit_byte (c : UInt8) (w : World) : Calls Tryd.prog 41 #[.int .u8 c.toNat] w fun e w' => e = .returned (.bool (digB c.toNat)) ∧ w' = w :=
  refDigit_any _ w (by omega) (by have := c.toNat_lt; omega)

set_option maxHeartbeats 400000 in
theorem refLower_any (c : Int) (w : World) (h0 : 0 ≤ c) (h1 : c ≤ 255) :
    Calls Tryd.prog 38 #[.int .u8 c] w fun e w' => e = .returned (.bool (lowB c)) ∧ w' = w := by
  by_cases ha : 97 ≤ c
  · by_cases hb : c ≤ 122
    · rw [lowB_t ha hb]
      go_enter Tryd.func38, Tryd.ntmps38
      go_wp2
      go_ret
      exact ⟨rfl, rfl⟩
    · rw [lowB_f (by omega)]
      go_enter Tryd.func38, Tryd.ntmps38
      go_wp2
      go_ret
      exact ⟨rfl, rfl⟩
  · rw [lowB_f (by omega)]
    go_enter Tryd.func38, Tryd.ntmps38
    go_wp2
    go_ret
    exact ⟨rfl, rfl⟩
theorem refLower_byte (c : UInt8) (w : World) : Calls Tryd.prog 38 #[.int .u8 c.toNat] w fun e w' => e = .returned (.bool (lowB c.toNat)) ∧ w' = w :=
  refLower_any _ w (by omega) (by have := c.toNat_lt; omega)

set_option maxHeartbeats 400000 in
theorem refUpper_any (c : Int) (w : World) (h0 : 0 ≤ c) (h1 : c ≤ 255) :
    Calls Tryd.prog 39 #[.int .u8 c] w fun e w' => e = .returned (.bool (upB c)) ∧ w' = w := by
  by_cases ha : 65 ≤ c
  · by_cases hb : c ≤ 90
    · rw [upB_t ha hb]
      go_enter Tryd.func39, Tryd.ntmps39
      go_wp2
      go_ret
      exact ⟨rfl, rfl⟩
    · rw [upB_f (by omega)]
      go_enter Tryd.func39, Tryd.ntmps39
      go_wp2
      go_ret
      exact ⟨rfl, rfl⟩
  · rw [upB_f (by omega)]
    go_enter Tryd.func39, Tryd.ntmps39
    go_wp2
    go_ret
    exact ⟨rfl, rfl⟩
theorem refUpper_byte (c : UInt8) (w : World) : Calls Tryd.prog 39 #[.int .u8 c.toNat] w fun e w' => e = .returned (.bool (upB c.toNat)) ∧ w' = w :=
  refUpper_any _ w (by omega) (by have := c.toNat_lt; omega)

def inB (n lo hi : Int) : Bool := decide (lo ≤ n ∧ n ≤ hi)
set_option maxHeartbeats 400000 in
theorem refIn_any (n lo hi : Int) (w : World) :
    Calls Tryd.prog 55 #[.int .i64 n, .int .i64 lo, .int .i64 hi] w fun e w' => e = .returned (.bool (inB n lo hi)) ∧ w' = w := by
  by_cases ha : lo ≤ n
  · have a1 : decide (lo ≤ n) = true := decide_eq_true ha
    by_cases hb : n ≤ hi
    · have a2 : decide (n ≤ hi) = true := decide_eq_true hb
      rw [show inB n lo hi = true from decide_eq_true ⟨ha, hb⟩]
      clear ha hb
      go_enter Tryd.func55, Tryd.ntmps55
      go_wp2
      go_ret
      exact ⟨rfl, rfl⟩
    · have a2 : decide (n ≤ hi) = false := decide_eq_false hb
      rw [show inB n lo hi = false from decide_eq_false (fun h => hb h.2)]
      clear ha hb
      go_enter Tryd.func55, Tryd.ntmps55
      go_wp2
      go_ret
      exact ⟨rfl, rfl⟩
  · have a1 : decide (lo ≤ n) = false := decide_eq_false ha
    rw [show inB n lo hi = false from decide_eq_false (fun h => ha h.1)]
    clear ha
    go_enter Tryd.func55, Tryd.ntmps55
    go_wp2
    go_ret
    exact ⟨rfl, rfl⟩

set_option maxHeartbeats 1000000 in
theorem refInner_byte (c : UInt8) (w : World) : Calls Tryd.prog 56 #[.int .u8 c.toNat] w fun e w' => e = .returned (.bool (innB c)) ∧ w' = w := by
  cases c1 : lowB c.toNat
  · cases c2 : upB c.toNat
    · cases c3 : digB c.toNat
      · cases c4 : (c.toNat : Int) == 95
        · have HI := hide (show innB c = false by simp only [innB, c1, c2, c3, c4]; rfl)
          go_enter Tryd.func56, Tryd.ntmps56
          go_wp2_with (first | (go_at_call 38; refine (refLower_byte _ _).mono ?_; rintro e w' ⟨rfl, rfl⟩) | (go_at_call 39; refine (refUpper_byte _ _).mono ?_; rintro e w' ⟨rfl, rfl⟩) | (go_at_call 41; refine (refDigit_byte _ _).mono ?_; rintro e w' ⟨rfl, rfl⟩))
          go_ret
          exact ⟨ret_bool (unhide HI), rfl⟩
        · have HI := hide (show innB c = true by simp only [innB, c1, c2, c3, c4]; rfl)
          go_enter Tryd.func56, Tryd.ntmps56
          go_wp2_with (first | (go_at_call 38; refine (refLower_byte _ _).mono ?_; rintro e w' ⟨rfl, rfl⟩) | (go_at_call 39; refine (refUpper_byte _ _).mono ?_; rintro e w' ⟨rfl, rfl⟩) | (go_at_call 41; refine (refDigit_byte _ _).mono ?_; rintro e w' ⟨rfl, rfl⟩))
          go_ret
          exact ⟨ret_bool (unhide HI), rfl⟩
      · have HI := hide (show innB c = true by simp [innB, c3])
        go_enter Tryd.func56, Tryd.ntmps56
        go_wp2_with (first | (go_at_call 38; refine (refLower_byte _ _).mono ?_; rintro e w' ⟨rfl, rfl⟩) | (go_at_call 39; refine (refUpper_byte _ _).mono ?_; rintro e w' ⟨rfl, rfl⟩) | (go_at_call 41; refine (refDigit_byte _ _).mono ?_; rintro e w' ⟨rfl, rfl⟩))
        go_ret
        exact ⟨ret_bool (unhide HI), rfl⟩
    · have HI := hide (show innB c = true by simp [innB, c2])
      go_enter Tryd.func56, Tryd.ntmps56
      go_wp2_with (first | (go_at_call 38; refine (refLower_byte _ _).mono ?_; rintro e w' ⟨rfl, rfl⟩) | (go_at_call 39; refine (refUpper_byte _ _).mono ?_; rintro e w' ⟨rfl, rfl⟩) | (go_at_call 41; refine (refDigit_byte _ _).mono ?_; rintro e w' ⟨rfl, rfl⟩))
      go_ret
      exact ⟨ret_bool (unhide HI), rfl⟩
  · have HI := hide (show innB c = true by simp [innB, c1])
    go_enter Tryd.func56, Tryd.ntmps56
    go_wp2_with (first | (go_at_call 38; refine (refLower_byte _ _).mono ?_; rintro e w' ⟨rfl, rfl⟩) | (go_at_call 39; refine (refUpper_byte _ _).mono ?_; rintro e w' ⟨rfl, rfl⟩) | (go_at_call 41; refine (refDigit_byte _ _).mono ?_; rintro e w' ⟨rfl, rfl⟩))
    go_ret
    exact ⟨ret_bool (unhide HI), rfl⟩

theorem symB_of (s : ByteArray) (h0 : 0 < s.size) : symB s.data.toList = (decide (s.size ≤ 24) && (lowB s[0].toNat && s.data.toList.all innB)) := by
  have hlen : s.data.toList.length = s.size := by simp
  have h00 : s.data.toList[0]? = some s[0] := get_data s 0 h0
  cases h : s.data.toList with
  | nil => rw [h] at hlen; simp at hlen; omega
  | cons a b =>
    rw [h] at hlen h00
    simp at hlen h00
    simp only [symB, h00, hlen]
theorem low_not_up {c : Int} (h : lowB c = true) : upB c = false := by
  simp only [lowB, decide_eq_true_eq] at h
  exact upB_f (by omega)

set_option maxHeartbeats 1000000 in
theorem refWord_any (s : ByteArray) (w : World) (hs : s.size ≤ maxLen) :
    Calls Tryd.prog 43 #[.string s, .bool false] w fun e w' => e = .returned (.bool (symB s.data.toList)) ∧ w' = w := by
  unfold maxLen at hs
  cases hin : inB s.size 1 24
  · have HS : Hid (symB s.data.toList = false) := by
      show _ = _
      have hin' : ¬ (1 ≤ (s.size : Int) ∧ (s.size : Int) ≤ 24) := by simpa [inB] using hin
      by_cases h0 : 0 < s.size
      · rw [symB_of s h0]; simp; omega
      · have hlen : s.data.toList.length = s.size := by simp
        have : s.data.toList = [] := List.length_eq_zero_iff.1 (by omega)
        rw [this]; rfl
    go_enter Tryd.func43, Tryd.ntmps43
    go_wp2_with (go_at_call 55; refine (refIn_any _ _ _ _).mono ?_; rintro e w' ⟨rfl, rfl⟩)
    go_ret
    exact ⟨ret_bool (unhide HS), rfl⟩
  · have hin' : 1 ≤ (s.size : Int) ∧ (s.size : Int) ≤ 24 := by simpa [inB] using hin
    have h0 : 0 < s.size := by omega
    have hl : s.size ≤ 24 := by omega
    have HS := hide (symB_of s h0)
    clear hin'
    cases hlo : lowB s[0].toNat
    · have HL := hide hlo
      cases hup : upB s[0].toNat
      all_goals
        go_enter Tryd.func43, Tryd.ntmps43
        go_wp2_with (first | (go_at_call 55; refine (refIn_any _ _ _ _).mono ?_; rintro e w' ⟨rfl, rfl⟩) | (go_at_call 38; refine (refLower_byte _ _).mono ?_; rintro e w' ⟨rfl, rfl⟩) | (go_at_call 39; refine (refUpper_byte _ _).mono ?_; rintro e w' ⟨rfl, rfl⟩))
        go_ret
        exact ⟨ret_bool (by rw [unhide HS, unhide HL]; simp), rfl⟩
    · have HL := hide hlo
      have hup := low_not_up hlo
      go_enter Tryd.func43, Tryd.ntmps43
      go_wp2_with (first | (go_at_call 55; refine (refIn_any _ _ _ _).mono ?_; rintro e w' ⟨rfl, rfl⟩) | (go_at_call 38; refine (refLower_byte _ _).mono ?_; rintro e w' ⟨rfl, rfl⟩) | (go_at_call 39; refine (refUpper_byte _ _).mono ?_; rintro e w' ⟨rfl, rfl⟩))
      go_loop [5] (fun i => ∃ k : Nat, k ≤ s.size ∧ i = .int .i64 k ∧ Hid ((s.data.toList.take k).all innB = true)) (fun i => s.size - (intOf i).toNat)
      case atStart => exact ⟨0, Nat.zero_le _, rfl, by rfl⟩
      case round =>
        obtain ⟨k, hk, rfl, HA⟩ := hrel
        clear hlo hup
        by_cases hlt : k < s.size
        · cases hi : innB s[k]
          · have HI := hide hi
            go_wp2_with (go_at_call 56; refine (refInner_byte _ _).mono ?_; rintro e w' ⟨rfl, rfl⟩)
            go_ret
            exact ⟨ret_bool (by rw [unhide HS, all_take_get s k hlt (unhide HI)]; simp), rfl⟩
          · have HI := hide hi
            go_wp2_with (go_at_call 56; refine (refInner_byte _ _).mono ?_; rintro e w' ⟨rfl, rfl⟩)
            go_round
            case rel => exact ⟨k + 1, by omega, by go_num, by show _ = _; rw [take_snoc s k hlt, List.all_append, unhide HA]; simp [unhide HI]⟩
            case measure => simp [intOf]; omega
        · go_wp2
          go_ret
          exact ⟨ret_bool (by rw [unhide HS, ← take_all s k (by omega), unhide HA, unhide HL]; simp [hl]), rfl⟩

end Go.Proofs.YtaapeleoiclplaaDoor

/- Joined: OwnR OwnS SubR SubA SubB SubC SubD SubE SubF SubG OwnF FactA. -/
import Derived.Test.YtcjnhhbcleljmaaGreatDoorOwnD
import Derived.Deep.RegionHeld3
import Derived.Deep.QuietTactic
import Derived.BigQuiet
import Derived.Test.YtcjnhhbcleljmaaGreatDoorBasA
import Derived.Laws.OwnMore
import Derived.Deep.DeepAppendWide
import Derived.Laws.AppendOwnNone
import Derived.Lib.QuietBelow
import Derived.Sort.Grow
namespace Go.Proofs.YtcjnhhbcleljmaaGreatDoor
open Go.RowKit
open V

set_option maxHeartbeats 400000 in
theorem refDigit_any (c : Int) (w : World) (h0 : 0 ≤ c) (h1 : c ≤ 255) :
    Calls Tryz.prog 163 #[.int .u8 c] w fun e w' => e = .returned (.bool (digB c)) ∧ w' = w := by
  by_cases ha : 48 ≤ c
  · by_cases hb : c ≤ 57
    · rw [digB_t ha hb]
      go_enter Tryz.func163, Tryz.ntmps163
      go_wp2
      go_ret
      exact ⟨rfl, rfl⟩
    · rw [digB_f (by omega)]
      go_enter Tryz.func163, Tryz.ntmps163
      go_wp2
      go_ret
      exact ⟨rfl, rfl⟩
  · rw [digB_f (by omega)]
    go_enter Tryz.func163, Tryz.ntmps163
    go_wp2
    go_ret
    exact ⟨rfl, rfl⟩
theorem refDigit_byte (c : UInt8) (w : World) : Calls Tryz.prog 163 #[.int .u8 c.toNat] w fun e w' => e = .returned (.bool (digB c.toNat)) ∧ w' = w :=
  refDigit_any _ w (by omega) (by have := c.toNat_lt; omega)

set_option maxHeartbeats 400000 in
theorem refLower_any (c : Int) (w : World) (h0 : 0 ≤ c) (h1 : c ≤ 255) :
    Calls Tryz.prog 164 #[.int .u8 c] w fun e w' => e = .returned (.bool (lowB c)) ∧ w' = w := by
  by_cases ha : 97 ≤ c
  · by_cases hb : c ≤ 122
    · rw [lowB_t ha hb]
      go_enter Tryz.func164, Tryz.ntmps164
      go_wp2
      go_ret
      exact ⟨rfl, rfl⟩
    · rw [lowB_f (by omega)]
      go_enter Tryz.func164, Tryz.ntmps164
      go_wp2
      go_ret
      exact ⟨rfl, rfl⟩
  · rw [lowB_f (by omega)]
    go_enter Tryz.func164, Tryz.ntmps164
    go_wp2
    go_ret
    exact ⟨rfl, rfl⟩
theorem refLower_byte (c : UInt8) (w : World) : Calls Tryz.prog 164 #[.int .u8 c.toNat] w fun e w' => e = .returned (.bool (lowB c.toNat)) ∧ w' = w :=
  refLower_any _ w (by omega) (by have := c.toNat_lt; omega)

set_option maxHeartbeats 400000 in
theorem refUpper_any (c : Int) (w : World) (h0 : 0 ≤ c) (h1 : c ≤ 255) :
    Calls Tryz.prog 165 #[.int .u8 c] w fun e w' => e = .returned (.bool (upB c)) ∧ w' = w := by
  by_cases ha : 65 ≤ c
  · by_cases hb : c ≤ 90
    · rw [upB_t ha hb]
      go_enter Tryz.func165, Tryz.ntmps165
      go_wp2
      go_ret
      exact ⟨rfl, rfl⟩
    · rw [upB_f (by omega)]
      go_enter Tryz.func165, Tryz.ntmps165
      go_wp2
      go_ret
      exact ⟨rfl, rfl⟩
  · rw [upB_f (by omega)]
    go_enter Tryz.func165, Tryz.ntmps165
    go_wp2
    go_ret
    exact ⟨rfl, rfl⟩
theorem refUpper_byte (c : UInt8) (w : World) : Calls Tryz.prog 165 #[.int .u8 c.toNat] w fun e w' => e = .returned (.bool (upB c.toNat)) ∧ w' = w :=
  refUpper_any _ w (by omega) (by have := c.toNat_lt; omega)

def inB (n lo hi : Int) : Bool := decide (lo ≤ n ∧ n ≤ hi)
set_option maxHeartbeats 400000 in
theorem refIn_any (n lo hi : Int) (w : World) :
    Calls Tryz.prog 118 #[.int .i64 n, .int .i64 lo, .int .i64 hi] w fun e w' => e = .returned (.bool (inB n lo hi)) ∧ w' = w := by
  by_cases ha : lo ≤ n
  · have a1 : decide (lo ≤ n) = true := decide_eq_true ha
    by_cases hb : n ≤ hi
    · have a2 : decide (n ≤ hi) = true := decide_eq_true hb
      rw [show inB n lo hi = true from decide_eq_true ⟨ha, hb⟩]
      clear ha hb
      go_enter Tryz.func118, Tryz.ntmps118
      go_wp2
      go_ret
      exact ⟨rfl, rfl⟩
    · have a2 : decide (n ≤ hi) = false := decide_eq_false hb
      rw [show inB n lo hi = false from decide_eq_false (fun h => hb h.2)]
      clear ha hb
      go_enter Tryz.func118, Tryz.ntmps118
      go_wp2
      go_ret
      exact ⟨rfl, rfl⟩
  · have a1 : decide (lo ≤ n) = false := decide_eq_false ha
    rw [show inB n lo hi = false from decide_eq_false (fun h => ha h.1)]
    clear ha
    go_enter Tryz.func118, Tryz.ntmps118
    go_wp2
    go_ret
    exact ⟨rfl, rfl⟩

set_option maxHeartbeats 1000000 in
theorem refInner_byte (c : UInt8) (w : World) : Calls Tryz.prog 169 #[.int .u8 c.toNat] w fun e w' => e = .returned (.bool (innB c)) ∧ w' = w := by
  cases c1 : lowB c.toNat
  · cases c2 : upB c.toNat
    · cases c3 : digB c.toNat
      · cases c4 : (c.toNat : Int) == 95
        · have HI := hide (show innB c = false by simp only [innB, c1, c2, c3, c4]; rfl)
          go_enter Tryz.func169, Tryz.ntmps169
          go_wp2_with (first | (go_at_call 164; refine (refLower_byte _ _).mono ?_; rintro e w' ⟨rfl, rfl⟩) | (go_at_call 165; refine (refUpper_byte _ _).mono ?_; rintro e w' ⟨rfl, rfl⟩) | (go_at_call 163; refine (refDigit_byte _ _).mono ?_; rintro e w' ⟨rfl, rfl⟩))
          go_ret
          exact ⟨ret_bool (unhide HI), rfl⟩
        · have HI := hide (show innB c = true by simp only [innB, c1, c2, c3, c4]; rfl)
          go_enter Tryz.func169, Tryz.ntmps169
          go_wp2_with (first | (go_at_call 164; refine (refLower_byte _ _).mono ?_; rintro e w' ⟨rfl, rfl⟩) | (go_at_call 165; refine (refUpper_byte _ _).mono ?_; rintro e w' ⟨rfl, rfl⟩) | (go_at_call 163; refine (refDigit_byte _ _).mono ?_; rintro e w' ⟨rfl, rfl⟩))
          go_ret
          exact ⟨ret_bool (unhide HI), rfl⟩
      · have HI := hide (show innB c = true by simp [innB, c3])
        go_enter Tryz.func169, Tryz.ntmps169
        go_wp2_with (first | (go_at_call 164; refine (refLower_byte _ _).mono ?_; rintro e w' ⟨rfl, rfl⟩) | (go_at_call 165; refine (refUpper_byte _ _).mono ?_; rintro e w' ⟨rfl, rfl⟩) | (go_at_call 163; refine (refDigit_byte _ _).mono ?_; rintro e w' ⟨rfl, rfl⟩))
        go_ret
        exact ⟨ret_bool (unhide HI), rfl⟩
    · have HI := hide (show innB c = true by simp [innB, c2])
      go_enter Tryz.func169, Tryz.ntmps169
      go_wp2_with (first | (go_at_call 164; refine (refLower_byte _ _).mono ?_; rintro e w' ⟨rfl, rfl⟩) | (go_at_call 165; refine (refUpper_byte _ _).mono ?_; rintro e w' ⟨rfl, rfl⟩) | (go_at_call 163; refine (refDigit_byte _ _).mono ?_; rintro e w' ⟨rfl, rfl⟩))
      go_ret
      exact ⟨ret_bool (unhide HI), rfl⟩
  · have HI := hide (show innB c = true by simp [innB, c1])
    go_enter Tryz.func169, Tryz.ntmps169
    go_wp2_with (first | (go_at_call 164; refine (refLower_byte _ _).mono ?_; rintro e w' ⟨rfl, rfl⟩) | (go_at_call 165; refine (refUpper_byte _ _).mono ?_; rintro e w' ⟨rfl, rfl⟩) | (go_at_call 163; refine (refDigit_byte _ _).mono ?_; rintro e w' ⟨rfl, rfl⟩))
    go_ret
    exact ⟨ret_bool (unhide HI), rfl⟩

theorem symB_of (s : ByteArray) (h0 : 0 < s.size) : symB s.data.toList = (decide (s.size ≤ 24) && (lowB s[0].toNat && s.data.toList.all innB)) := by
  have hlen : s.data.toList.length = s.size := by simp
  have h00 : s.data.toList[0]? = some s[0] := get_data s 0 h0
  cases h : s.data.toList with
  | nil => rw [h] at hlen; simp at hlen; omega
  | cons a b =>
    rw [h] at hlen h00
    simp at hlen h00
    simp only [symB, h00, hlen]
theorem low_not_up {c : Int} (h : lowB c = true) : upB c = false := by
  simp only [lowB, decide_eq_true_eq] at h
  exact upB_f (by omega)

set_option maxHeartbeats 1000000 in
theorem refWord_any (s : ByteArray) (w : World) (hs : s.size ≤ maxLen) :
    Calls Tryz.prog 115 #[.string s, .bool false] w fun e w' => e = .returned (.bool (symB s.data.toList)) ∧ w' = w := by
  unfold maxLen at hs
  cases hin : inB s.size 1 24
  · have HS : Hid (symB s.data.toList = false) := by
      show _ = _
      have hin' : ¬ (1 ≤ (s.size : Int) ∧ (s.size : Int) ≤ 24) := by simpa [inB] using hin
      by_cases h0 : 0 < s.size
      · rw [symB_of s h0]; simp; omega
      · have hlen : s.data.toList.length = s.size := by simp
        have : s.data.toList = [] := List.length_eq_zero_iff.1 (by omega)
        rw [this]; rfl
    go_enter Tryz.func115, Tryz.ntmps115
    go_wp2_with (go_at_call 118; refine (refIn_any _ _ _ _).mono ?_; rintro e w' ⟨rfl, rfl⟩)
    go_ret
    exact ⟨ret_bool (unhide HS), rfl⟩
  · have hin' : 1 ≤ (s.size : Int) ∧ (s.size : Int) ≤ 24 := by simpa [inB] using hin
    have h0 : 0 < s.size := by omega
    have hl : s.size ≤ 24 := by omega
    have HS := hide (symB_of s h0)
    clear hin'
    cases hlo : lowB s[0].toNat
    · have HL := hide hlo
      cases hup : upB s[0].toNat
      all_goals
        go_enter Tryz.func115, Tryz.ntmps115
        go_wp2_with (first | (go_at_call 118; refine (refIn_any _ _ _ _).mono ?_; rintro e w' ⟨rfl, rfl⟩) | (go_at_call 164; refine (refLower_byte _ _).mono ?_; rintro e w' ⟨rfl, rfl⟩) | (go_at_call 165; refine (refUpper_byte _ _).mono ?_; rintro e w' ⟨rfl, rfl⟩))
        go_ret
        exact ⟨ret_bool (by rw [unhide HS, unhide HL]; simp), rfl⟩
    · have HL := hide hlo
      have hup := low_not_up hlo
      go_enter Tryz.func115, Tryz.ntmps115
      go_wp2_with (first | (go_at_call 118; refine (refIn_any _ _ _ _).mono ?_; rintro e w' ⟨rfl, rfl⟩) | (go_at_call 164; refine (refLower_byte _ _).mono ?_; rintro e w' ⟨rfl, rfl⟩) | (go_at_call 165; refine (refUpper_byte _ _).mono ?_; rintro e w' ⟨rfl, rfl⟩))
      go_loop [5] (fun i => ∃ k : Nat, k ≤ s.size ∧ i = .int .i64 k ∧ Hid ((s.data.toList.take k).all innB = true)) (fun i => s.size - (intOf i).toNat)
      case atStart => exact ⟨0, Nat.zero_le _, rfl, by rfl⟩
      case round =>
        obtain ⟨k, hk, rfl, HA⟩ := hrel
        clear hlo hup
        by_cases hlt : k < s.size
        · cases hi : innB s[k]
          · have HI := hide hi
            go_wp2_with (go_at_call 169; refine (refInner_byte _ _).mono ?_; rintro e w' ⟨rfl, rfl⟩)
            go_ret
            exact ⟨ret_bool (by rw [unhide HS, all_take_get s k hlt (unhide HI)]; simp), rfl⟩
          · have HI := hide hi
            go_wp2_with (go_at_call 169; refine (refInner_byte _ _).mono ?_; rintro e w' ⟨rfl, rfl⟩)
            go_round
            case rel => exact ⟨k + 1, by omega, by go_num, by show _ = _; rw [take_snoc s k hlt, List.all_append, unhide HA]; simp [unhide HI]⟩
            case measure => simp [intOf]; omega
        · go_wp2
          go_ret
          exact ⟨ret_bool (by rw [unhide HS, ← take_all s k (by omega), unhide HA, unhide HL]; simp [hl]), rfl⟩

end Go.Proofs.YtcjnhhbcleljmaaGreatDoor
namespace Go.Proofs.YtcjnhhbcleljmaaGreatDoor
open Go.RowKit
open V

theorem drop_cons (s : ByteArray) (k : Nat) (h : k < s.size) : s.data.toList.drop k = s[k] :: s.data.toList.drop (k + 1) := by
  rw [List.drop_eq_getElem_cons (by simpa using h)]; rfl
theorem drop_end (s : ByteArray) (k : Nat) (h : s.size ≤ k) : s.data.toList.drop k = [] := List.drop_eq_nil_of_le (by simpa using h)
theorem cB_step (a b : ByteArray) (k : Nat) (ha : k < a.size) (hb : k < b.size) (h : (a[k].toNat : Int) = b[k].toNat) :
    Lib.compareBytes (a.data.toList.drop k) (b.data.toList.drop k) = Lib.compareBytes (a.data.toList.drop (k + 1)) (b.data.toList.drop (k + 1)) := by
  have e : a[k] = b[k] := UInt8.toNat_inj.1 (by omega)
  rw [drop_cons a k ha, drop_cons b k hb, e, cB_same]
theorem cB_diff (a b : ByteArray) (k : Nat) (ha : k < a.size) (hb : k < b.size) (h : ¬ (a[k].toNat : Int) = b[k].toNat) :
    Lib.compareBytes (a.data.toList.drop k) (b.data.toList.drop k) = Lib.compareInt a[k].toNat b[k].toNat := by
  rw [drop_cons a k ha, drop_cons b k hb]
  rcases u8_tri a[k] b[k] with e | e | e
  · rw [cB_lt e, cI_lt (by rw [UInt8.lt_iff_toNat_lt] at e; omega)]
  · exact absurd (by rw [e]) h
  · rw [cB_gt e, cI_gt (by rw [UInt8.lt_iff_toNat_lt] at e; omega)]
theorem cB_end (a b : ByteArray) (k : Nat) (ha : k ≤ a.size) (hb : k ≤ b.size) (h : ¬ (k < a.size ∧ k < b.size)) :
    Lib.compareBytes (a.data.toList.drop k) (b.data.toList.drop k) = Lib.compareInt a.size b.size := by
  by_cases h1 : k < a.size
  · rw [drop_cons a k h1, drop_end b k (by omega), cI_gt (by omega)]; rfl
  · by_cases h2 : k < b.size
    · rw [drop_cons b k h2, drop_end a k (by omega), cI_lt (by omega)]; rfl
    · rw [drop_end a k (by omega), drop_end b k (by omega), show a.size = b.size by omega, cI_eq]; rfl

theorem byte_wrap (c : UInt8) : IntKind.i64.wrap (c.toNat : Int) = c.toNat := by
  have := c.toNat_lt
  simp [IntKind.wrap, IntKind.bits, IntKind.signed]; omega

theorem in_byte (c : UInt8) : inB (c.toNat : Int) 32 126 = strC c := rfl

set_option maxHeartbeats 1000000 in
theorem refValue_any (k n : Int) (s : ByteArray) (w : World) (hs : s.size ≤ 1000) :
    Calls Tryz.prog 119 #[.agg #[.int .i64 k, .int .i64 n, .string s]] w fun e w' => e = .returned (.bool (rightB k n s.data.toList)) ∧ Below w.heap.size w w' := by
  have hlen : s.data.toList.length = s.size := by simp
  have hB : Below w.heap.size w (w.alloc (.cells #[.int .i64 k, .int .i64 n, .string s] 139)) := (Below.refl _ _).alloc (Nat.le_refl _) _
  have hsm : s.size ≤ maxLen := by unfold maxLen; omega
  by_cases k1 : k = 1
  · subst k1
    cases hi : inB n (-4611686018427387904) 4611686018427387904
    · have HV : Hid (rightB 1 n s.data.toList = false) := by
        show _ = _
        have : decide (-4611686018427387904 ≤ n ∧ n ≤ 4611686018427387904) = false := hi
        simp only [rightB, if_true, this, Bool.and_false]
      clear hlen
      go_enter Tryz.func119, Tryz.ntmps119
      go_wp2_with (go_at_call 118; refine (refIn_any _ _ _ _).mono ?_; rintro e w' ⟨rfl, hw⟩; subst hw)
      go_ret
      exact ⟨ret_bool (unhide HV), hB⟩
    · have hi' : decide (-4611686018427387904 ≤ n ∧ n ≤ 4611686018427387904) = true := hi
      by_cases hz : s.size = 0
      · have HV : Hid (rightB 1 n s.data.toList = true) := by
          show _ = _
          have : s.data.toList = [] := List.length_eq_zero_iff.1 (by omega)
          simp only [rightB, if_true, hi', this]; rfl
        have e1 : ((s.size : Int) == 0) = true := by rw [beq_iff_eq]; omega
        clear hlen hz hi'
        go_enter Tryz.func119, Tryz.ntmps119
        go_wp2_with (go_at_call 118; refine (refIn_any _ _ _ _).mono ?_; rintro e w' ⟨rfl, hw⟩; subst hw)
        go_ret
        exact ⟨ret_bool (unhide HV), hB⟩
      · have HV : Hid (rightB 1 n s.data.toList = false) := by
          show _ = _
          have : s.data.toList.isEmpty = false := by
            rw [← ByteArray.toList_eq, isEmpty_of]; simp [hz]
          simp only [rightB, if_true, this, Bool.false_and]
        have e1 : ((s.size : Int) == 0) = false := by rw [beq_eq_false_iff_ne]; omega
        clear hlen hz hi'
        go_enter Tryz.func119, Tryz.ntmps119
        go_wp2_with (go_at_call 118; refine (refIn_any _ _ _ _).mono ?_; rintro e w' ⟨rfl, hw⟩; subst hw)
        go_ret
        exact ⟨ret_bool (unhide HV), hB⟩
  · have b1 : (k == 1) = false := beq_eq_false_iff_ne.2 k1
    by_cases k2 : k = 2
    · subst k2
      cases hn : n == 0
      · have HV : Hid (rightB 2 n s.data.toList = false) := by show _ = _; simp [rightB, hn]
        clear hlen k1
        go_enter Tryz.func119, Tryz.ntmps119
        go_wp2_with (go_at_call 115; refine (refWord_any _ _ hsm).mono ?_; rintro e w' ⟨rfl, hw⟩; subst hw)
        go_ret
        exact ⟨ret_bool (unhide HV), hB⟩
      · have HV : Hid (rightB 2 n s.data.toList = symB s.data.toList) := by show _ = _; simp only [rightB, hn]; simp
        clear hlen k1
        go_enter Tryz.func119, Tryz.ntmps119
        go_wp2_with (go_at_call 115; refine (refWord_any _ _ hsm).mono ?_; rintro e w' ⟨rfl, hw⟩; subst hw)
        go_ret
        exact ⟨ret_bool (unhide HV), hB⟩
    · have b2 : (k == 2) = false := beq_eq_false_iff_ne.2 k2
      by_cases k3 : k = 3
      · subst k3
        cases hn : n == 0
        · have HV : Hid (rightB 3 n s.data.toList = false) := by show _ = _; simp [rightB, hn]
          have hn' : (n != 0) = true := by simp [bne, hn]
          clear hlen k1 k2
          go_enter Tryz.func119, Tryz.ntmps119
          go_wp2
          go_ret
          exact ⟨ret_bool (unhide HV), hB⟩
        · have hn' : (n != 0) = false := by simp [bne, hn]
          by_cases hl : s.size ≤ 60
          · have hd : decide (60 < (s.size : Int)) = false := decide_eq_false (by omega)
            have HV : Hid (rightB 3 n s.data.toList = s.data.toList.all strC) := by show _ = _; simp only [rightB, hn, strB, hlen, hl]; simp
            clear hlen k1 k2 hn
            go_enter Tryz.func119, Tryz.ntmps119
            go_wp2
            go_loop [3] (fun i => ∃ j : Nat, j ≤ s.size ∧ i = .int .i64 j ∧ Hid ((s.data.toList.take j).all strC = true)) (fun i => s.size - (intOf i).toNat)
            case atStart => exact ⟨0, Nat.zero_le _, rfl, by rfl⟩
            case round =>
              obtain ⟨j, hj, rfl, HA⟩ := hrel
              by_cases hlt : j < s.size
              · have hw := byte_wrap s[j]
                cases hc : strC s[j]
                · have HI := hide hc
                  have hc' : inB (s[j].toNat : Int) 32 126 = false := hc
                  clear hc
                  go_wp2_with (go_at_call 118; refine (refIn_any _ _ _ _).mono ?_; rintro e w' ⟨rfl, hw⟩; subst hw)
                  go_ret
                  exact ⟨ret_bool (by rw [unhide HV, all_take_get s j hlt (unhide HI)]), hB⟩
                · have HI := hide hc
                  have hc' : inB (s[j].toNat : Int) 32 126 = true := hc
                  clear hc
                  go_wp2_with (go_at_call 118; refine (refIn_any _ _ _ _).mono ?_; rintro e w' ⟨rfl, hw⟩; subst hw)
                  go_round
                  case rel => exact ⟨j + 1, by omega, by go_num, by show _ = _; rw [take_snoc s j hlt, List.all_append, unhide HA]; simp [unhide HI]⟩
                  case measure => simp [intOf]; omega
              · go_wp2
                go_ret
                exact ⟨ret_bool (by rw [unhide HV, ← take_all s j (by omega), unhide HA]), hB⟩
          · have hd : decide (60 < (s.size : Int)) = true := decide_eq_true (by omega)
            have HV : Hid (rightB 3 n s.data.toList = false) := by show _ = _; simp only [rightB, strB, hlen, hl]; simp
            clear hlen k1 k2 hn
            go_enter Tryz.func119, Tryz.ntmps119
            go_wp2
            go_ret
            exact ⟨ret_bool (unhide HV), hB⟩
      · have b3 : (k == 3) = false := beq_eq_false_iff_ne.2 k3
        have HV := hide (show rightB k n s.data.toList = false by simp [rightB, k1, k2, k3])
        clear hlen k1 k2 k3
        go_enter Tryz.func119, Tryz.ntmps119
        go_wp2
        go_ret
        exact ⟨ret_bool (unhide HV), hB⟩
end Go.Proofs.YtcjnhhbcleljmaaGreatDoor
namespace Go.Proofs.YtcjnhhbcleljmaaGreatDoor.Sb
open Go.RowKit
open V

theorem varB_of (s : ByteArray) (h0 : 0 < s.size) : varB s.data.toList = (decide (s.size ≤ 24) && (upB s[0].toNat && s.data.toList.all innB)) := by
  have hlen : s.data.toList.length = s.size := by simp
  have h00 : s.data.toList[0]? = some s[0] := get_data s 0 h0
  cases h : s.data.toList with
  | nil => rw [h] at hlen; simp at hlen; omega
  | cons a b =>
    rw [h] at hlen h00
    simp at hlen h00
    simp only [varB, h00, hlen]
theorem varB_none {s : ByteArray} (h : ¬ 0 < s.size) : varB s.data.toList = false := by
  have hlen : s.data.toList.length = s.size := by simp
  have : s.data.toList = [] := List.length_eq_zero_iff.1 (by omega)
  rw [this]; rfl

set_option maxHeartbeats 1000000 in
theorem refWordU_any (s : ByteArray) (w : World) (hs : s.size ≤ maxLen) :
    Calls Tryz.prog 115 #[.string s, .bool true] w fun e w' => e = .returned (.bool (varB s.data.toList)) ∧ w' = w := by
  unfold maxLen at hs
  cases hin : inB s.size 1 24
  · have HS : Hid (varB s.data.toList = false) := by
      show _ = _
      have hin' : ¬ (1 ≤ (s.size : Int) ∧ (s.size : Int) ≤ 24) := by simpa [inB] using hin
      by_cases h0 : 0 < s.size
      · rw [varB_of s h0]; simp; omega
      · exact varB_none h0
    go_enter Tryz.func115, Tryz.ntmps115
    go_wp2_with (go_at_call 118; refine (refIn_any _ _ _ _).mono ?_; rintro e w' ⟨rfl, rfl⟩)
    go_ret
    exact ⟨ret_bool (unhide HS), rfl⟩
  · have hin' : 1 ≤ (s.size : Int) ∧ (s.size : Int) ≤ 24 := by simpa [inB] using hin
    have h0 : 0 < s.size := by omega
    have hl : s.size ≤ 24 := by omega
    have HS := hide (varB_of s h0)
    clear hin'
    cases hup : upB s[0].toNat
    · have HL := hide hup
      go_enter Tryz.func115, Tryz.ntmps115
      go_wp2_with (first | (go_at_call 118; refine (refIn_any _ _ _ _).mono ?_; rintro e w' ⟨rfl, rfl⟩) | (go_at_call 165; refine (refUpper_byte _ _).mono ?_; rintro e w' ⟨rfl, rfl⟩))
      go_ret
      exact ⟨ret_bool (by rw [unhide HS, unhide HL]; simp), rfl⟩
    · have HL := hide hup
      go_enter Tryz.func115, Tryz.ntmps115
      go_wp2_with (first | (go_at_call 118; refine (refIn_any _ _ _ _).mono ?_; rintro e w' ⟨rfl, rfl⟩) | (go_at_call 165; refine (refUpper_byte _ _).mono ?_; rintro e w' ⟨rfl, rfl⟩))
      go_loop [5] (fun i => ∃ k : Nat, k ≤ s.size ∧ i = .int .i64 k ∧ Hid ((s.data.toList.take k).all innB = true)) (fun i => s.size - (intOf i).toNat)
      case atStart => exact ⟨0, Nat.zero_le _, rfl, by rfl⟩
      case round =>
        obtain ⟨k, hk, rfl, HA⟩ := hrel
        clear hup
        by_cases hlt : k < s.size
        · cases hi : innB s[k]
          · have HI := hide hi
            go_wp2_with (go_at_call 169; refine (refInner_byte _ _).mono ?_; rintro e w' ⟨rfl, rfl⟩)
            go_ret
            exact ⟨ret_bool (by rw [unhide HS, all_take_get s k hlt (unhide HI)]; simp), rfl⟩
          · have HI := hide hi
            go_wp2_with (go_at_call 169; refine (refInner_byte _ _).mono ?_; rintro e w' ⟨rfl, rfl⟩)
            go_round
            case rel => exact ⟨k + 1, by omega, by go_num, by show _ = _; rw [take_snoc s k hlt, List.all_append, unhide HA]; simp [unhide HI]⟩
            case measure => simp [intOf]; omega
        · have hl2 : s.size ≤ 24 := hl
          go_wp2
          go_ret
          exact ⟨ret_bool (by have := unhide HA; rw [take_all s k (by omega)] at this; rw [unhide HS, unhide HL, this]; simp; omega), rfl⟩
end Go.Proofs.YtcjnhhbcleljmaaGreatDoor.Sb
namespace Go.Proofs.YtcjnhhbcleljmaaGreatDoor.Sb
open Go.RowKit
open V

theorem chk_t {b : Bool} (h : b = true) : chk b = 0 := by rw [h]; rfl
theorem chk_f {b : Bool} (h : b = false) : chk b = 1 := by rw [h]; rfl
theorem ret_bool' {a b : Bool} (h : a = b) : Ending.returned (.bool a) = .returned (.bool b) := by rw [h]
theorem cell_lt {w : World} {b o : Nat} {v : Value} (h : w.cell? ⟨b, o, none⟩ = some v) : b < w.heap.size := by
  by_cases hb : b < w.heap.size
  · exact hb
  · simp [World.cell?, Array.getElem?_eq_none (show w.heap.size ≤ b by omega)] at h
theorem cell_on {w w' : World} {b o : Nat} {v : Value} (hb : Below w.heap.size w w') (h : w.cell? ⟨b, o, none⟩ = some v) : w'.cell? ⟨b, o, none⟩ = some v :=
  (hb.cell (p := ⟨b, o, none⟩) (cell_lt h)).trans h
theorem below_drewN {B : Nat} {a w : World} (h : Below B a w) (n : Nat) : Below B a (w.drewN n) := ⟨h.os, h.tape, h.output, h.size, h.block⟩

/-- A value's cells, a variable's and its value's. -/
def vA (v : Vv) : Array Value := #[.int .i64 v.1, .int .i64 v.2.1, .string v.2.2]
def bA (x : Bb) : Array Value := #[.string x.1, .int .i64 x.2.1, .int .i64 x.2.2.1, .string x.2.2.2]

def flatB : List Bb → List Value
  | [] => []
  | x :: r => .string x.1 :: .int .i64 x.2.1 :: .int .i64 x.2.2.1 :: .string x.2.2.2 :: flatB r
theorem flatB_app (xs ys : List Bb) : flatB (xs ++ ys) = flatB xs ++ flatB ys := by
  induction xs with
  | nil => rfl
  | cons x r ih => simp [flatB, ih]
theorem flatB_len (xs : List Bb) : (flatB xs).length = xs.length * 4 := by
  induction xs with
  | nil => rfl
  | cons x r ih => simp [flatB, ih]; omega
theorem flatB_get (xs : List Bb) : ∀ (i : Nat) (x : Bb), xs[i]? = some x → (flatB xs)[i * 4]? = some (.string x.1) ∧ (flatB xs)[i * 4 + 1]? = some (.int .i64 x.2.1) ∧ (flatB xs)[i * 4 + 2]? = some (.int .i64 x.2.2.1) ∧ (flatB xs)[i * 4 + 3]? = some (.string x.2.2.2) := by
  induction xs with
  | nil => intro i x h; simp at h
  | cons y r ih =>
    intro i x h
    match i with
    | 0 => simp at h; subst h; simp [flatB]
    | i + 1 =>
      have := ih i x (by simpa using h)
      rw [show (i + 1) * 4 = i * 4 + 1 + 1 + 1 + 1 by omega]
      simpa [flatB] using this
theorem flatB_oneCell (xs : List Bb) : ∀ u ∈ flatB xs, u.oneCell' = true := by
  induction xs with
  | nil => intro u h; simp [flatB] at h
  | cons x r ih =>
    intro u h
    simp only [flatB, List.mem_cons] at h
    rcases h with rfl | rfl | rfl | rfl | h
    · rfl
    · rfl
    · rfl
    · rfl
    · exact ih u h

/-- A row of them lies at a. -/
def RowB (w : World) (a : Option Addr) (xs : List Bb) : Prop :=
  xs = [] ∨ ∃ b o, a = some ⟨b, o, none⟩ ∧ b < w.heap.size ∧ ∀ (i : Nat) (x : Bb), xs[i]? = some x →
    w.cell? ⟨b, o + i * 4, none⟩ = some (.string x.1) ∧ w.cell? ⟨b, o + i * 4 + 1, none⟩ = some (.int .i64 x.2.1) ∧ w.cell? ⟨b, o + i * 4 + 2, none⟩ = some (.int .i64 x.2.2.1) ∧ w.cell? ⟨b, o + i * 4 + 3, none⟩ = some (.string x.2.2.2)
theorem RowB.on {w w' : World} {a : Option Addr} {xs : List Bb} (h : RowB w a xs) (hb : Below w.heap.size w w') : RowB w' a xs := by
  rcases h with h | ⟨b, o, ha, hlt, hc⟩
  · exact Or.inl h
  · refine Or.inr ⟨b, o, ha, by have := hb.size; omega, fun i v hv => ?_⟩
    obtain ⟨h0, h1, h2, h3⟩ := hc i v hv
    exact ⟨cell_on hb h0, cell_on hb h1, cell_on hb h2, cell_on hb h3⟩
theorem RowB.up {w : World} {a : Option Addr} {xs : List Bb} {i : Nat} (h : RowB w a xs) (hi : i < xs.length) : ∃ b o, a = some ⟨b, o, none⟩ ∧ b < w.heap.size ∧
    w.cell? ⟨b, o + i * 4, none⟩ = some (.string xs[i].1) ∧ w.cell? ⟨b, o + i * 4 + 1, none⟩ = some (.int .i64 xs[i].2.1) ∧ w.cell? ⟨b, o + i * 4 + 2, none⟩ = some (.int .i64 xs[i].2.2.1) ∧ w.cell? ⟨b, o + i * 4 + 3, none⟩ = some (.string xs[i].2.2.2) := by
  rcases h with h | ⟨b, o, ha, hlt, hc⟩
  · subst h; simp at hi
  · exact ⟨b, o, ha, hlt, hc i xs[i] (by simp [hi])⟩
theorem rowB_drew {w : World} {a : Option Addr} {xs : List Bb} : RowB w.drew a xs ↔ RowB w a xs := Iff.rfl

/-- Not too long to be played. -/
def Lt (x : Bb) : Prop := x.1.size ≤ 200 ∧ x.2.2.2.size ≤ 200

theorem bytes_eq (a b : ByteArray) : (a.toList == b.toList) = decide (a = b) := by
  rw [ByteArray.toList_eq, ByteArray.toList_eq]
  by_cases h : a = b
  · simp [h]
  · have : a.data.toList ≠ b.data.toList := fun e => h (bytes_ext e)
    rw [decide_eq_false h, beq_eq_false_iff_ne]; exact this

theorem toList_inj {a b : ByteArray} : a.toList = b.toList ↔ a = b := by
  rw [ByteArray.toList_eq, ByteArray.toList_eq]
  exact ⟨bytes_ext, fun h => by rw [h]⟩

theorem eqV_run (x y : Vv) (w : World) : (binOp .eql 139 (.agg #[.int .i64 x.1, .int .i64 x.2.1, .string x.2.2]) (.agg #[.int .i64 y.1, .int .i64 y.2.1, .string y.2.2])).run Tryz.prog w = .ok (.bool (decide (x = y))) w := by
  have u3 := Tryz.underlying3
  have a3 := Tryz.isAgg3
  have z3 := Tryz.sizeOf3
  have u9 := Tryz.underlying9
  have a9 := Tryz.isAgg9
  have z9 := Tryz.sizeOf9
  have hS : Tryz.prog.underlying 139 = some (.struct (Tryz.prog.fieldsOf 139)) := by kernel_rfl
  have hp : Tryz.prog.stoodInHeld 139 = false := by kernel_rfl
  rw [run_eql_struct, show (10000 : Nat) = 9999 + 1 from rfl, run_equalIn_agg w 9999 139 _ _ hS hp]
  simp only [Program.fieldsOf, Tryz.underlying139]
  go_simp
  simp only [toList_inj]
  obtain ⟨a, b, c⟩ := x
  obtain ⟨a', b', c'⟩ := y
  by_cases h1 : a = a' <;> by_cases h2 : b = b' <;> by_cases h3 : c = c' <;> simp [h1, h2, h3]

theorem eqV_in (a b a' b' : Int) (c c' : ByteArray) (w : World) : (Op.equalIn 9999 139 (.agg #[.int .i64 a, .int .i64 b, .string c]) (.agg #[.int .i64 a', .int .i64 b', .string c'])).run Tryz.prog w = .ok (decide (a = a' ∧ b = b' ∧ c = c')) w := by
  have u3 := Tryz.underlying3
  have a3 := Tryz.isAgg3
  have z3 := Tryz.sizeOf3
  have u9 := Tryz.underlying9
  have a9 := Tryz.isAgg9
  have z9 := Tryz.sizeOf9
  have hS : Tryz.prog.underlying 139 = some (.struct (Tryz.prog.fieldsOf 139)) := by kernel_rfl
  have hp : Tryz.prog.stoodInHeld 139 = false := by kernel_rfl
  rw [show (9999 : Nat) = 9998 + 1 from rfl, run_equalIn_agg w 9998 139 _ _ hS hp]
  simp only [Program.fieldsOf, Tryz.underlying139]
  go_simp
  simp only [toList_inj]
  by_cases h1 : a = a' <;> by_cases h2 : b = b' <;> by_cases h3 : c = c' <;> simp [h1, h2, h3]

end Go.Proofs.YtcjnhhbcleljmaaGreatDoor.Sb
namespace Go.Proofs.YtcjnhhbcleljmaaGreatDoor.Sb
open Go.RowKit
open V

theorem list_ne {xs ys : List Bb} {k : Nat} (hx : k < xs.length) (hy : k < ys.length) (h : xs[k] ≠ ys[k]) : xs ≠ ys := by
  intro e
  subst e
  exact h rfl
theorem take_same {xs ys : List Bb} {k : Nat} (hx : k < xs.length) (hy : k < ys.length) (h : xs[k] = ys[k]) (hp : xs.take k = ys.take k) : xs.take (k + 1) = ys.take (k + 1) := by
  rw [List.take_succ_eq_append_getElem hx, List.take_succ_eq_append_getElem hy, hp, h]

end Go.Proofs.YtcjnhhbcleljmaaGreatDoor.Sb
namespace Go.Proofs.YtcjnhhbcleljmaaGreatDoor.Sb
open Go.RowKit
open V

theorem var_sym (c : UInt8) (r : List UInt8) (h : upB c.toNat = true) : symB (97 :: r) = varB (c :: r) := by
  have hc : innB c = true := by simp [innB, h]
  simp [symB, varB, h, hc, List.all_cons, show lowB 97 = true from rfl, show innB 97 = true from rfl]
theorem cut_list (s : ByteArray) (h0 : 0 < s.size) (h : upB s[0].toNat = true) : rightB 2 0 (({ data := #[97] } : ByteArray) ++ s.extract 1 s.size).data.toList = varB s.data.toList := by
  have h00 : s.data.toList[0]? = some s[0] := get_data s 0 h0
  have e : (({ data := #[97] } : ByteArray) ++ s.extract 1 s.size).data.toList = 97 :: s.data.toList.drop 1 := by
    simp [ByteArray.data_append, ByteArray.data_extract]
    exact List.take_of_length_le (by simp)
  rw [e]
  cases hs : s.data.toList with
  | nil => rw [hs] at h00; simp at h00
  | cons c r =>
    rw [hs] at h00
    simp at h00
    rw [← h00] at h
    simpa [rightB] using var_sym c r h
theorem cut_size (s : ByteArray) (hs : s.size ≤ 200) : (({ data := #[97] } : ByteArray) ++ s.extract 1 s.size).size ≤ maxLen := by
  have : (({ data := #[97] } : ByteArray) ++ s.extract 1 s.size).size = 1 + (s.size - 1) := by
    simp [ByteArray.size_append, ByteArray.size_extract]; rfl
  unfold maxLen
  omega

set_option maxHeartbeats 1000000 in
theorem var_any (s : ByteArray) (w : World) (hs : s.size ≤ 200) :
    Calls Tryz.prog 145 #[.string s] w fun e w' => e = .returned (.bool (varB s.data.toList)) ∧ Below w.heap.size w w' := by
  by_cases h0 : 0 < s.size
  · have e0 : s.toList.isEmpty = false := by rw [isEmpty_of]; exact decide_eq_false (by omega)
    have HV := hide (varB_of s h0)
    by_cases h24 : 24 < s.size
    · have HF : Hid (varB s.data.toList = false) := hide (by rw [varB_of s h0]; simp; omega)
      have d24 : decide (24 < (s.size : Int)) = true := by simp; omega
      go_enter Tryz.func145, Tryz.ntmps145
      go_wp2_with fail
      go_ret
      exact ⟨ret_bool' (unhide HF).symm, Below.refl _ _⟩
    · have d24 : decide (24 < (s.size : Int)) = false := by simp; omega
      by_cases hA : (s[0].toNat : Int) < 65
      · have HF : Hid (varB s.data.toList = false) := hide (by rw [varB_of s h0, upB_f (c := s[0].toNat) (by omega)]; simp)
        have dA : decide ((s[0].toNat : Int) < 65) = true := decide_eq_true hA
        go_enter Tryz.func145, Tryz.ntmps145
        go_wp2_with fail
        go_ret
        exact ⟨ret_bool' (unhide HF).symm, Below.refl _ _⟩
      · have dA : decide ((s[0].toNat : Int) < 65) = false := decide_eq_false hA
        by_cases hZ : 90 < (s[0].toNat : Int)
        · have HF : Hid (varB s.data.toList = false) := hide (by rw [varB_of s h0, upB_f (c := s[0].toNat) (by omega)]; simp)
          have dZ : decide (90 < (s[0].toNat : Int)) = true := decide_eq_true hZ
          go_enter Tryz.func145, Tryz.ntmps145
          go_wp2_with fail
          go_ret
          exact ⟨ret_bool' (unhide HF).symm, Below.refl _ _⟩
        · have dZ : decide (90 < (s[0].toNat : Int)) = false := decide_eq_false hZ
          have hc := check_any 2 0 (({ data := #[97] } : ByteArray) ++ s.extract 1 s.size) w (cut_size s hs)
          rw [cut_list s h0 (upB_t (by omega) (by omega))] at hc
          cases hv : varB s.data.toList with
          | false =>
            rw [hv, show chk false = 1 from rfl] at hc
            clear HV
            go_enter Tryz.func145, Tryz.ntmps145
            go_wp2_with fail
            refine hc.mono ?_
            rintro e w1 ⟨rfl, hb1⟩
            go_wp2_with fail
            go_ret
            exact ⟨rfl, hb1⟩
          | true =>
            rw [hv, show chk true = 0 from rfl] at hc
            clear HV
            go_enter Tryz.func145, Tryz.ntmps145
            go_wp2_with fail
            refine hc.mono ?_
            rintro e w1 ⟨rfl, hb1⟩
            go_wp2_with fail
            go_ret
            exact ⟨rfl, hb1⟩
  · have e0 : s.toList.isEmpty = true := by rw [isEmpty_of]; exact decide_eq_true (by omega)
    have HF : Hid (varB s.data.toList = false) := hide (varB_none h0)
    go_enter Tryz.func145, Tryz.ntmps145
    go_wp2_with fail
    go_ret
    exact ⟨ret_bool' (unhide HF).symm, Below.refl _ _⟩

/-- Of what was there nothing has turned, and no draw was taken back. -/
structure Grew (w w' : World) : Prop where
  b : Below w.heap.size w w'
  d : w.drawn ≤ w'.drawn
theorem Grew.refl (w : World) : Grew w w := ⟨Below.refl _ _, Nat.le_refl _⟩
theorem Grew.alloc {a w : World} (h : Grew a w) (o : Obj) : Grew a (w.alloc o) := ⟨h.b.alloc h.b.size _, h.d⟩
theorem Grew.out {w w' : World} (h : Grew w w') : ∃ q os, w' = Sort.grow (w.drewN q) os := by
  obtain ⟨hb, hd⟩ := h
  refine ⟨w'.drawn - w.drawn, w'.heap.extract w.heap.size w'.heap.size, ?_⟩
  obtain ⟨heap', tape', drawn', os', output'⟩ := w'
  have e1 : os' = w.os := hb.os
  have e2 : tape' = w.tape := hb.tape
  have e3 : output' = w.output := hb.output
  have hs : w.heap.size ≤ heap'.size := hb.size
  have hbl : ∀ k, k < w.heap.size → heap'[k]? = w.heap[k]? := hb.block
  have hd' : w.drawn ≤ drawn' := hd
  subst e1 e2 e3
  have eh : heap' = w.heap ++ heap'.extract w.heap.size heap'.size := by
    apply Array.ext_getElem?
    intro k
    by_cases hk : k < w.heap.size
    · rw [Array.getElem?_append_left hk]; exact hbl k hk
    · rw [Array.getElem?_append_right (by omega), Array.getElem?_extract]
      by_cases hk2 : k < heap'.size
      · rw [if_pos (by omega)]; congr 1; omega
      · rw [if_neg (by omega), Array.getElem?_eq_none (by omega)]
  simp only [Sort.grow, World.drewN]
  congr 1
  omega

theorem var_q (s : ByteArray) (q : Bool) (w : World) (hs : s.size ≤ 200) (H : Hid (varB s.data.toList = q)) :
    Calls Tryz.prog 145 #[.string s] w fun e w' => e = .returned (.bool q) ∧ Below w.heap.size w w' := by
  have := var_any s w hs
  rw [unhide H] at this
  exact this
theorem vcheck_x (v : Vv) (n : Int) (w : World) (hs : v.2.2.size ≤ 200) (H : Hid (chk (rightVv v) = n)) :
    Calls Tryz.prog 144 #[.agg #[.int .i64 v.1, .int .i64 v.2.1, .string v.2.2]] w fun e w' => e = .returned (.int .i64 n) ∧ Below w.heap.size w w' := by
  have := check_any v.1 v.2.1 v.2.2 w (by unfold maxLen; omega)
  rw [show chk (rightB v.1 v.2.1 v.2.2.data.toList) = n from unhide H] at this
  exact this

end Go.Proofs.YtcjnhhbcleljmaaGreatDoor.Sb
namespace Go.Proofs.YtcjnhhbcleljmaaGreatDoor.Sb
open Go.RowKit
open V

/-- A contract that adds to memory alone, at every world of a region that draws its order. -/
theorem cls {F : FuncId} {args : Array Value} {v : Value} {wr : World} (c : ∀ W, Below wr.heap.size wr W → Calls Tryz.prog F args W fun e w' => e = .returned v ∧ Below W.heap.size W w') :
    ∀ d os, Calls Tryz.prog F args (Sort.grow (redrawn wr d) os) fun e w'' => e = .returned v ∧ ∃ p : Regrown, w'' = Sort.grow (redrawn wr p.d) p.os :=
  fun d os => Calls.regrown_of (c _ (below_regrown wr d os))

end Go.Proofs.YtcjnhhbcleljmaaGreatDoor.Sb
namespace Go.Proofs.YtcjnhhbcleljmaaGreatDoor.Sb
open Go.RowKit
open V

theorem refVar_q (s : ByteArray) (q : Bool) (w : World) (hs : s.size ≤ 200) (H : Hid (varB s.data.toList = q)) :
    Calls Tryz.prog 115 #[.string s, .bool true] w fun e w' => e = .returned (.bool q) ∧ Below w.heap.size w w' := by
  refine (refWordU_any s w (by unfold maxLen; omega)).mono ?_
  rintro e w' ⟨rfl, hw⟩
  subst hw
  exact ⟨ret_bool' (unhide H), Below.refl _ _⟩
theorem refVal_q (v : Vv) (q : Bool) (w : World) (hs : v.2.2.size ≤ 200) (H : Hid (rightVv v = q)) :
    Calls Tryz.prog 119 #[.agg #[.int .i64 v.1, .int .i64 v.2.1, .string v.2.2]] w fun e w' => e = .returned (.bool q) ∧ Below w.heap.size w w' := by
  have := refValue_any v.1 v.2.1 v.2.2 w (by omega)
  rw [show rightB v.1 v.2.1 v.2.2.data.toList = q from unhide H] at this
  exact this
theorem size_f {n : Nat} (h : ¬ 200 < n) : decide (200 < (n : Int)) = false := decide_eq_false (by omega)
theorem size_t {n : Nat} (h : 200 < n) : decide (200 < (n : Int)) = true := decide_eq_true (by omega)

end Go.Proofs.YtcjnhhbcleljmaaGreatDoor.Sb
namespace Go.Proofs.YtcjnhhbcleljmaaGreatDoor.Sb
open Go.RowKit
open V

/-- What is got, and whether. -/
def getR (xs : List Bb) (n : ByteArray) : Vv × Bool := match getL xs n with
  | some v => (v, true)
  | none => ((0, 0, ⟨#[]⟩), false)
theorem getR_some {xs : List Bb} {n : ByteArray} {v : Vv} (h : getL xs n = some v) : getR xs n = (v, true) := by simp [getR, h]
theorem getR_none {xs : List Bb} {n : ByteArray} (h : getL xs n = none) : getR xs n = ((0, 0, ⟨#[]⟩), false) := by simp [getR, h]
theorem str_t {a b : ByteArray} (h : a = b) : (a.toList == b.toList) = true := by rw [h]; simp
theorem str_f {a b : ByteArray} (h : a ≠ b) : (a.toList == b.toList) = false := by rw [bytes_eq]; exact decide_eq_false h

theorem trip_of {w : World} {b : Nat} {v : Vv} {T : TypeId} (h : w.heap[b]? = some (.cells #[.int .i64 v.1, .int .i64 v.2.1, .string v.2.2] T)) : w.cell? ⟨b, 0, none⟩ = some (.int .i64 v.1) ∧ w.cell? ⟨b, 1, none⟩ = some (.int .i64 v.2.1) ∧ w.cell? ⟨b, 2, none⟩ = some (.string v.2.2) := by
  refine ⟨?_, ?_, ?_⟩ <;> (rw [Lib.cell_of_heap h]; rfl)

end Go.Proofs.YtcjnhhbcleljmaaGreatDoor.Sb
namespace Go.Proofs.YtcjnhhbcleljmaaGreatDoor.Sb
open Go.RowKit
open V

theorem info_parts {t : TypeId} {z : Value} {s b : Nat} (h : (Tryz.prog.info? t).map (fun i => (i.zero, i.size, i.bytes)) = some (some z, s, b)) : ∃ i, Tryz.prog.info? t = some i ∧ i.zero = some z ∧ i.size = s ∧ i.bytes = b := by
  cases hi : Tryz.prog.info? t with
  | none => rw [hi] at h; cases h
  | some i =>
    rw [hi] at h
    simp only [Option.map_some, Option.some.injEq, Prod.mk.injEq] at h
    exact ⟨i, rfl, h.1, h.2.1, h.2.2⟩

theorem own_on {w w' : World} {B : Nat} {e : TypeId} {s : Nat} {v : Value} {n : Nat} {xs : List Value} (h : w.ownsRow B e s v n xs) (hb : Below w.heap.size w w') : w'.ownsRow B e s v n xs :=
  h.kept (row := none) ⟨hb.os, hb.tape, hb.output, hb.size, fun k hk _ => hb.block k hk⟩ (by cases hv : v.ownBlock <;> simp)
theorem own_mono {w : World} {B B' : Nat} {e : TypeId} {s : Nat} {v : Value} {n : Nat} {xs : List Value} (h : w.ownsRow B e s v n xs) (hB : B' ≤ B) : w.ownsRow B' e s v n xs := by
  refine ⟨h.1, ?_⟩
  rcases h.2 with h | ⟨g, cap, cur, hv, hb, r⟩
  · exact Or.inl h
  · exact Or.inr ⟨g, cap, cur, hv, by omega, r⟩
theorem own_slice {w : World} {B : Nat} {e : TypeId} {s : Nat} {v : Value} {n : Nat} {xs : List Value} (h : w.ownsRow B e s v n xs) : ∃ a cap, v = .slice a n cap := by
  rcases h.2 with ⟨hv, h0⟩ | ⟨g, cap, cur, hv, _⟩
  · exact ⟨none, 0, by rw [hv, h0]⟩
  · exact ⟨_, _, hv⟩
theorem own_drew {w : World} {B : Nat} {e : TypeId} {s : Nat} {v : Value} {n : Nat} {xs : List Value} (h : w.ownsRow B e s v n xs) : w.drew.ownsRow B e s v n xs := h
theorem own_nil {w : World} {B : Nat} {e : TypeId} {s : Nat} {a : Option Addr} {n cap : Nat} {xs : List Value} (h : w.ownsRow B e s (.slice a n cap) n xs) : (a = none → cap = 0) ∧ n ≤ cap := by
  rcases h.2 with ⟨hv, h0⟩ | ⟨g, cap', cur, hv, _, _, hc, _⟩
  · simp at hv; exact ⟨fun _ => hv.2.2, by omega⟩
  · simp only [Value.slice.injEq] at hv
    obtain ⟨rfl, _, rfl⟩ := hv
    exact ⟨by simp, hc⟩
/-- A list lies at a slice. -/
structure Lies (w : World) (a : Option Addr) (n cap : Nat) (xs : List Bb) : Prop where
  row : RowB w a xs
  len : n = xs.length
  nil : a = none → cap = 0
  cap : n ≤ cap
theorem Lies.on {w w' : World} {a : Option Addr} {n cap : Nat} {xs : List Bb} (h : Lies w a n cap xs) (hb : Below w.heap.size w w') : Lies w' a n cap xs := ⟨h.row.on hb, h.len, h.nil, h.cap⟩
theorem Lies.le {w : World} {a : Option Addr} {n cap : Nat} {xs : List Bb} (h : Lies w a n cap xs) : n ≤ xs.length := by rw [h.len]; exact Nat.le_refl _
theorem Lies.ge {w : World} {a : Option Addr} {n cap : Nat} {xs : List Bb} (h : Lies w a n cap xs) : xs.length ≤ n := by rw [h.len]; exact Nat.le_refl _
theorem lies_none (w : World) : Lies w none 0 0 [] := ⟨Or.inl rfl, rfl, fun _ => rfl, Nat.le_refl _⟩

theorem flatB_cells {W : World} {b o : Nat} (xs : List Bb) (hc : ∀ (i : Nat) (x : Bb), xs[i]? = some x → W.cell? ⟨b, o + i * 4, none⟩ = some (.string x.1) ∧ W.cell? ⟨b, o + i * 4 + 1, none⟩ = some (.int .i64 x.2.1) ∧ W.cell? ⟨b, o + i * 4 + 2, none⟩ = some (.int .i64 x.2.2.1) ∧ W.cell? ⟨b, o + i * 4 + 3, none⟩ = some (.string x.2.2.2)) : ∀ (j : Nat) (u : Value), (flatB xs)[j]? = some u → W.cell? ⟨b, o + j, none⟩ = some u := by
  induction xs generalizing o with
  | nil => intro j u h; simp [flatB] at h
  | cons x r ih =>
    intro j u h
    obtain ⟨h0, h1, h2, h3⟩ := hc 0 x rfl
    match j with
    | 0 => simp [flatB] at h; subst h; simpa using h0
    | 1 => simp [flatB] at h; subst h; simpa using h1
    | 2 => simp [flatB] at h; subst h; simpa using h2
    | 3 => simp [flatB] at h; subst h; simpa using h3
    | j + 4 =>
      have := ih (o := o + 4) (fun i v hv => by
        have := hc (i + 1) v (by simpa using hv)
        rw [show o + (i + 1) * 4 = o + 4 + i * 4 by omega] at this
        exact this) j u (by simpa [flatB] using h)
      rw [show o + (j + 4) = o + 4 + j by omega]
      exact this
theorem row_cells {W : World} {ad : Addr} {xs : List Bb} (h : RowB W (some ad) xs) : ∀ (j : Nat) (u : Value), (flatB xs)[j]? = some u → W.cell? (ad.add j) = some u := by
  rcases h with h | ⟨b, o, h, hlt, hc⟩
  · subst h; intro j u hu; simp [flatB] at hu
  · simp only [Option.some.injEq] at h
    subst h
    intro j u hu
    rw [WideShapes.add_plain]
    exact flatB_cells xs hc j u hu

/-- A list, as it is handed on. -/
structure Lb where
  a : Option Addr
  len : Nat
  cap : Nat
  xs : List Bb
/-- A row of lists lies at block b. -/
def RowL (w : World) (b : Nat) (ls : List Lb) : Prop := b < w.heap.size ∧ ∀ (i : Nat) (l : Lb), ls[i]? = some l → w.cell? ⟨b, i, none⟩ = some (.slice l.a l.len l.cap) ∧ Lies w l.a l.len l.cap l.xs
theorem RowL.on {w w' : World} {b : Nat} {ls : List Lb} (h : RowL w b ls) (hb : Below w.heap.size w w') : RowL w' b ls :=
  ⟨by have := h.1; have := hb.size; omega, fun i l hl => ⟨cell_on hb (h.2 i l hl).1, (h.2 i l hl).2.on hb⟩⟩
theorem RowL.up {w : World} {b : Nat} {ls : List Lb} {i : Nat} (h : RowL w b ls) (hi : i < ls.length) : w.cell? ⟨b, i, none⟩ = some (.slice ls[i].a ls[i].len ls[i].cap) ∧ Lies w ls[i].a ls[i].len ls[i].cap ls[i].xs := h.2 i ls[i] (by simp [hi])
def allL (ls : List Lb) : List Bb := ls.flatMap Lb.xs
def sumL (ls : List Lb) : Nat := (ls.map Lb.len).sum
theorem allL_snoc (ls : List Lb) (l : Lb) : allL (ls ++ [l]) = allL ls ++ l.xs := by simp [allL]
theorem sumL_snoc (ls : List Lb) (l : Lb) : sumL (ls ++ [l]) = sumL ls + l.len := by simp [sumL]
theorem sumL_take (ls : List Lb) (k : Nat) : sumL (ls.take k) ≤ sumL ls := by
  induction ls generalizing k with
  | nil => simp
  | cons x r ih =>
    cases k with
    | zero => simp [sumL]
    | succ k => have := ih k; simp [sumL] at this ⊢; omega

end Go.Proofs.YtcjnhhbcleljmaaGreatDoor.Sb
namespace Go.Proofs.YtcjnhhbcleljmaaGreatDoor
open Go.RowKit
open V

def or3 (x y z : Int) : Int := if x ≠ 0 then x else if y ≠ 0 then y else z
theorem or3_x {x y z : Int} (h : x ≠ 0) : or3 x y z = x := if_pos h
theorem or3_y {y z : Int} (h : y ≠ 0) : or3 0 y z = y := by simp [or3, h]
theorem or3_z {z : Int} : or3 0 0 z = z := by simp [or3]

end Go.Proofs.YtcjnhhbcleljmaaGreatDoor
namespace Go.Proofs.YtcjnhhbcleljmaaGreatDoor
open Go.RowKit
open V

theorem eqL_f {s : ByteArray} {l : List UInt8} (h : s.data.toList ≠ l) : (s.toList == l) = false := by
  rw [ByteArray.toList_eq]; exact beq_eq_false_iff_ne.2 h
theorem eqL_t {s : ByteArray} {l : List UInt8} (h : s.data.toList = l) : (s.toList == l) = true := by
  rw [ByteArray.toList_eq]; exact beq_iff_eq.2 h

theorem words_cases (l : List UInt8) : wordsL.contains l = false ∧ (l ≠ [102, 97, 99, 116] ∧ l ≠ [114, 117, 108, 101] ∧ l ≠ [112, 97, 116, 116, 101, 114, 110] ∧ l ≠ [110, 111, 116] ∧ l ≠ [97, 110, 100] ∧ l ≠ [111, 114] ∧ l ≠ [98, 101, 102, 111, 114, 101] ∧ l ≠ [111, 110, 99, 101] ∧ l ≠ [97, 108, 119, 97, 121, 115] ∧ l ≠ [115, 105, 110, 99, 101] ∧ l ≠ [100, 114, 111, 112]) ∨ wordsL.contains l = true ∧ (l = [102, 97, 99, 116] ∨ l = [114, 117, 108, 101] ∨ l = [112, 97, 116, 116, 101, 114, 110] ∨ l = [110, 111, 116] ∨ l = [97, 110, 100] ∨ l = [111, 114] ∨ l = [98, 101, 102, 111, 114, 101] ∨ l = [111, 110, 99, 101] ∨ l = [97, 108, 119, 97, 121, 115] ∨ l = [115, 105, 110, 99, 101] ∨ l = [100, 114, 111, 112]) := by
  cases h : wordsL.contains l with
  | false =>
    left
    refine ⟨rfl, ?_⟩
    simp [wordsL] at h
    exact h
  | true =>
    right
    refine ⟨rfl, ?_⟩
    simp [wordsL] at h
    exact h

set_option maxHeartbeats 1000000 in
theorem isKept_any (s : ByteArray) (w : World) :
    Calls Tryz.prog 170 #[.string s] w fun e w' => e = .returned (.bool (wordsL.contains s.data.toList)) ∧ w' = w := by
  rcases words_cases s.data.toList with ⟨hc, h0, h1, h2, h3, h4, h5, h6, h7, h8, h9, h10⟩ | ⟨hc, h⟩
  · rw [hc]
    have e0 := eqL_f h0
    have e1 := eqL_f h1
    have e2 := eqL_f h2
    have e3 := eqL_f h3
    have e4 := eqL_f h4
    have e5 := eqL_f h5
    have e6 := eqL_f h6
    have e7 := eqL_f h7
    have e8 := eqL_f h8
    have e9 := eqL_f h9
    have e10 := eqL_f h10
    clear hc h0 h1 h2 h3 h4 h5 h6 h7 h8 h9 h10
    go_enter Tryz.func170, Tryz.ntmps170
    go_wp2_with fail
    go_ret
    exact ⟨rfl, rfl⟩
  · rw [hc]
    clear hc
    rcases h with h | h | h | h | h | h | h | h | h | h | h
    · have hs : s = ⟨#[102, 97, 99, 116]⟩ := by rw [← Lib.mk_data s, h]
      subst hs
      clear h
      go_enter Tryz.func170, Tryz.ntmps170
      go_wp2_with fail
      go_ret
      exact ⟨rfl, rfl⟩
    · have hs : s = ⟨#[114, 117, 108, 101]⟩ := by rw [← Lib.mk_data s, h]
      subst hs
      clear h
      go_enter Tryz.func170, Tryz.ntmps170
      go_wp2_with fail
      go_ret
      exact ⟨rfl, rfl⟩
    · have hs : s = ⟨#[112, 97, 116, 116, 101, 114, 110]⟩ := by rw [← Lib.mk_data s, h]
      subst hs
      clear h
      go_enter Tryz.func170, Tryz.ntmps170
      go_wp2_with fail
      go_ret
      exact ⟨rfl, rfl⟩
    · have hs : s = ⟨#[110, 111, 116]⟩ := by rw [← Lib.mk_data s, h]
      subst hs
      clear h
      go_enter Tryz.func170, Tryz.ntmps170
      go_wp2_with fail
      go_ret
      exact ⟨rfl, rfl⟩
    · have hs : s = ⟨#[97, 110, 100]⟩ := by rw [← Lib.mk_data s, h]
      subst hs
      clear h
      go_enter Tryz.func170, Tryz.ntmps170
      go_wp2_with fail
      go_ret
      exact ⟨rfl, rfl⟩
    · have hs : s = ⟨#[111, 114]⟩ := by rw [← Lib.mk_data s, h]
      subst hs
      clear h
      go_enter Tryz.func170, Tryz.ntmps170
      go_wp2_with fail
      go_ret
      exact ⟨rfl, rfl⟩
    · have hs : s = ⟨#[98, 101, 102, 111, 114, 101]⟩ := by rw [← Lib.mk_data s, h]
      subst hs
      clear h
      go_enter Tryz.func170, Tryz.ntmps170
      go_wp2_with fail
      go_ret
      exact ⟨rfl, rfl⟩
    · have hs : s = ⟨#[111, 110, 99, 101]⟩ := by rw [← Lib.mk_data s, h]
      subst hs
      clear h
      go_enter Tryz.func170, Tryz.ntmps170
      go_wp2_with fail
      go_ret
      exact ⟨rfl, rfl⟩
    · have hs : s = ⟨#[97, 108, 119, 97, 121, 115]⟩ := by rw [← Lib.mk_data s, h]
      subst hs
      clear h
      go_enter Tryz.func170, Tryz.ntmps170
      go_wp2_with fail
      go_ret
      exact ⟨rfl, rfl⟩
    · have hs : s = ⟨#[115, 105, 110, 99, 101]⟩ := by rw [← Lib.mk_data s, h]
      subst hs
      clear h
      go_enter Tryz.func170, Tryz.ntmps170
      go_wp2_with fail
      go_ret
      exact ⟨rfl, rfl⟩
    · have hs : s = ⟨#[100, 114, 111, 112]⟩ := by rw [← Lib.mk_data s, h]
      subst hs
      clear h
      go_enter Tryz.func170, Tryz.ntmps170
      go_wp2_with fail
      go_ret
      exact ⟨rfl, rfl⟩

theorem chk_t {b : Bool} (h : b = true) : chk b = 0 := by rw [h]; rfl
theorem chk_f {b : Bool} (h : b = false) : chk b = 1 := by rw [h]; rfl

set_option maxHeartbeats 1000000 in
theorem name_any (s : ByteArray) (w : World) (hs : s.size ≤ maxLen) :
    Calls Tryz.prog 120 #[.string s] w fun e w' => e = .returned (.bool (nameB s.data.toList)) ∧ Below w.heap.size w w' := by
  have hr : rightB 2 0 s.data.toList = symB s.data.toList := by simp [rightB]
  cases hb : symB s.data.toList with
  | false =>
    have hn : nameB s.data.toList = false := by simp [nameB, hb]
    rw [hn]
    have hc : chk (rightB 2 0 s.data.toList) = 1 := chk_f (by rw [hr, hb])
    clear hn hr
    go_enter Tryz.func120, Tryz.ntmps120
    go_wp2_with (go_at_call 144; refine (check_any _ _ _ _ hs).mono ?_; rintro e w1 ⟨rfl, hb1⟩; rw [hc])
    go_ret
    exact ⟨rfl, hb1⟩
  | true =>
    have hn : nameB s.data.toList = !wordsL.contains s.data.toList := by simp [nameB, hb]
    rw [hn]
    have hc : chk (rightB 2 0 s.data.toList) = 0 := chk_t (by rw [hr, hb])
    clear hn hr
    have hk := fun w => isKept_any s w
    generalize wordsL.contains s.data.toList = q at hk ⊢
    go_enter Tryz.func120, Tryz.ntmps120
    go_wp2_with (first | (go_at_call 144; refine (check_any _ _ _ _ hs).mono ?_; rintro e w1 ⟨rfl, hb1⟩; rw [hc]) | (go_at_call 170; refine (hk _).mono ?_; rintro e w2 ⟨rfl, rfl⟩))
    go_ret
    exact ⟨rfl, hb1⟩

/-- A value, as it lies in memory. -/
structure Vb where
  k : Int
  n : Int
  s : ByteArray
def Vb.l (v : Vb) : Vl := (v.k, v.n, v.s.data.toList)

/-- A row of values lies at a. -/
def RowV (w : World) (a : Option Addr) (vs : List Vb) : Prop :=
  vs = [] ∨ ∃ b o, a = some ⟨b, o, none⟩ ∧ b < w.heap.size ∧ ∀ (i : Nat) (v : Vb), vs[i]? = some v →
    w.cell? ⟨b, o + i * 3, none⟩ = some (.int .i64 v.k) ∧ w.cell? ⟨b, o + i * 3 + 1, none⟩ = some (.int .i64 v.n) ∧ w.cell? ⟨b, o + i * 3 + 2, none⟩ = some (.string v.s)

theorem RowV.on {w w' : World} {a : Option Addr} {vs : List Vb} (h : RowV w a vs) (hb : Below w.heap.size w w') : RowV w' a vs := by
  rcases h with h | ⟨b, o, ha, hlt, hc⟩
  · exact Or.inl h
  · refine Or.inr ⟨b, o, ha, by have := hb.size; omega, fun i v hv => ?_⟩
    obtain ⟨h0, h1, h2⟩ := hc i v hv
    exact ⟨(hb.cell (p := ⟨b, _, none⟩) hlt).trans h0, (hb.cell (p := ⟨b, _, none⟩) hlt).trans h1, (hb.cell (p := ⟨b, _, none⟩) hlt).trans h2⟩
theorem RowV.up {w : World} {a : Option Addr} {vs : List Vb} {i : Nat} (h : RowV w a vs) (hi : i < vs.length) : ∃ b o, a = some ⟨b, o, none⟩ ∧ b < w.heap.size ∧
    w.cell? ⟨b, o + i * 3, none⟩ = some (.int .i64 vs[i].k) ∧ w.cell? ⟨b, o + i * 3 + 1, none⟩ = some (.int .i64 vs[i].n) ∧ w.cell? ⟨b, o + i * 3 + 2, none⟩ = some (.string vs[i].s) := by
  rcases h with h | ⟨b, o, ha, hlt, hc⟩
  · subst h; simp at hi
  · exact ⟨b, o, ha, hlt, hc i vs[i] (by simp [hi])⟩

/-- A fact, as it lies in memory: its name, where its arguments lie, and what these are. -/
structure Fb where
  n : ByteArray
  a : Option Addr
  len : Nat
  cap : Nat
  vs : List Vb
def Fb.l (f : Fb) : Fc := (f.n.data.toList, f.vs.map Vb.l)
def Fb.val (f : Fb) : Value := .agg #[.string f.n, .slice f.a f.len f.cap]
/-- The fact's arguments lie there. -/
structure Fb.In (f : Fb) (w : World) : Prop where
  row : RowV w f.a f.vs
  len : f.len = f.vs.length
theorem Fb.In.on {f : Fb} {w w' : World} (h : f.In w) (hb : Below w.heap.size w w') : f.In w' := ⟨h.row.on hb, h.len⟩

/-- A row of facts lies at a. -/
def RowF (w : World) (a : Option Addr) (fs : List Fb) : Prop :=
  (∀ f ∈ fs, f.In w) ∧ (fs = [] ∨ ∃ b o, a = some ⟨b, o, none⟩ ∧ b < w.heap.size ∧ ∀ (i : Nat) (f : Fb), fs[i]? = some f →
    w.cell? ⟨b, o + i * 2, none⟩ = some (.string f.n) ∧ w.cell? ⟨b, o + i * 2 + 1, none⟩ = some (.slice f.a f.len f.cap))
theorem RowF.on {w w' : World} {a : Option Addr} {fs : List Fb} (h : RowF w a fs) (hb : Below w.heap.size w w') : RowF w' a fs := by
  refine ⟨fun f hf => (h.1 f hf).on hb, ?_⟩
  rcases h.2 with h | ⟨b, o, ha, hlt, hc⟩
  · exact Or.inl h
  · refine Or.inr ⟨b, o, ha, by have := hb.size; omega, fun i v hv => ?_⟩
    obtain ⟨h0, h1⟩ := hc i v hv
    exact ⟨(hb.cell (p := ⟨b, _, none⟩) hlt).trans h0, (hb.cell (p := ⟨b, _, none⟩) hlt).trans h1⟩
theorem RowF.up {w : World} {a : Option Addr} {fs : List Fb} {i : Nat} (h : RowF w a fs) (hi : i < fs.length) : ∃ b o, a = some ⟨b, o, none⟩ ∧ b < w.heap.size ∧
    w.cell? ⟨b, o + i * 2, none⟩ = some (.string fs[i].n) ∧ w.cell? ⟨b, o + i * 2 + 1, none⟩ = some (.slice fs[i].a fs[i].len fs[i].cap) ∧ fs[i].In w := by
  have hin := h.1 fs[i] (List.getElem_mem hi)
  rcases h.2 with h | ⟨b, o, ha, hlt, hc⟩
  · subst h; simp at hi
  · obtain ⟨h0, h1⟩ := hc i fs[i] (by simp [hi])
    exact ⟨b, o, ha, hlt, h0, h1, hin⟩
end Go.Proofs.YtcjnhhbcleljmaaGreatDoor

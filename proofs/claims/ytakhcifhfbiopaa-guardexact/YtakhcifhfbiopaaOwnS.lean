/- What the document's own functions Strings, Values and Value return. -/
import Derived.Test.YtakhcifhfbiopaaOwnR
namespace Go.Proofs.Ytakhcifhfbiopaa
open Go.RowKit
open V

theorem drop_cons (s : ByteArray) (k : Nat) (h : k < s.size) : s.data.toList.drop k = s[k] :: s.data.toList.drop (k + 1) := by
  rw [List.drop_eq_getElem_cons (by simpa using h)]; rfl
theorem drop_end (s : ByteArray) (k : Nat) (h : s.size ≤ k) : s.data.toList.drop k = [] := List.drop_eq_nil_of_le (by simpa using h)
theorem cB_step (a b : ByteArray) (k : Nat) (ha : k < a.size) (hb : k < b.size) (h : (a[k].toNat : Int) = b[k].toNat) :
    Lib.compareBytes (a.data.toList.drop k) (b.data.toList.drop k) = Lib.compareBytes (a.data.toList.drop (k + 1)) (b.data.toList.drop (k + 1)) := by
  have e : a[k] = b[k] := UInt8.toNat_inj.1 (by omega)
  rw [drop_cons a k ha, drop_cons b k hb, e, cB_same]
theorem cB_diff (a b : ByteArray) (k : Nat) (ha : k < a.size) (hb : k < b.size) (h : ¬ (a[k].toNat : Int) = b[k].toNat) :
    Lib.compareBytes (a.data.toList.drop k) (b.data.toList.drop k) = Lib.compareInt a[k].toNat b[k].toNat := by
  rw [drop_cons a k ha, drop_cons b k hb]
  rcases u8_tri a[k] b[k] with e | e | e
  · rw [cB_lt e, cI_lt (by rw [UInt8.lt_iff_toNat_lt] at e; omega)]
  · exact absurd (by rw [e]) h
  · rw [cB_gt e, cI_gt (by rw [UInt8.lt_iff_toNat_lt] at e; omega)]
theorem cB_end (a b : ByteArray) (k : Nat) (ha : k ≤ a.size) (hb : k ≤ b.size) (h : ¬ (k < a.size ∧ k < b.size)) :
    Lib.compareBytes (a.data.toList.drop k) (b.data.toList.drop k) = Lib.compareInt a.size b.size := by
  by_cases h1 : k < a.size
  · rw [drop_cons a k h1, drop_end b k (by omega), cI_gt (by omega)]; rfl
  · by_cases h2 : k < b.size
    · rw [drop_cons b k h2, drop_end a k (by omega), cI_lt (by omega)]; rfl
    · rw [drop_end a k (by omega), drop_end b k (by omega), show a.size = b.size by omega, cI_eq]; rfl

theorem byte_wrap (c : UInt8) : IntKind.i64.wrap (c.toNat : Int) = c.toNat := by
  have := c.toNat_lt
  simp [IntKind.wrap, IntKind.bits, IntKind.signed]; omega

set_option maxHeartbeats 1000000 in
theorem refStrings_any (a b : ByteArray) (w : World) (ha : a.size ≤ 1000) (hb : b.size ≤ 1000) :
    Calls Try.prog 37 #[.string a, .string b] w fun e w' => e = .returned (.int .i64 (Lib.compareBytes a.data.toList b.data.toList)) ∧ Below w.heap.size w w' := by
  go_enter Try.func37, Try.ntmps37
  go_wp2
  go_loopw [5] (fun i wr => ∃ k : Nat, k ≤ a.size ∧ k ≤ b.size ∧ i = .int .i64 k ∧ Below w.heap.size w wr ∧ Hid (Lib.compareBytes a.data.toList b.data.toList = Lib.compareBytes (a.data.toList.drop k) (b.data.toList.drop k))) (fun i _ => a.size - (intOf i).toNat)
  case atStart => exact ⟨0, by omega, by omega, rfl, Below.refl _ _, by rfl⟩
  case round =>
    obtain ⟨k, hka, hkb, rfl, hbw, HC⟩ := hrel
    by_cases hl : k < a.size ∧ k < b.size
    · obtain ⟨h1, h2⟩ := hl
      have t1 : decide ((k : Int) < a.size) = true := decide_eq_true (by omega)
      have t2 : decide ((k : Int) < b.size) = true := decide_eq_true (by omega)
      have i1 : (k : Int) < a.size := by omega
      have i2 : (k : Int) < b.size := by omega
      by_cases he : (a[k].toNat : Int) = b[k].toNat
      · have e1 : ((a[k].toNat : Int) != b[k].toNat) = false := by rw [he]; simp
        have HN := hide ((unhide HC).trans (cB_step a b k h1 h2 he))
        clear he
        go_wp2
        go_quiet (fail)
        go_wp2
        go_roundw
        case rel => exact ⟨k + 1, by omega, by omega, by go_num, below_drewN hbw _, HN⟩
        case measure => simp [intOf]; omega
      · have e1 : ((a[k].toNat : Int) != b[k].toNat) = true := by simp [he]
        have HN := hide ((unhide HC).trans (cB_diff a b k h1 h2 he))
        clear he
        go_wp2
        go_quiet (fail)
        go_wp2
        go_region_with (go_at_call 47; refine (refOrder_any _ _ _).mono ?_; rintro e w' ⟨rfl, rfl⟩)
        all_goals go_wp2
        all_goals go_ret
        all_goals exact ⟨ret_int (by rw [unhide HN, byte_wrap, byte_wrap]), (below_drewN hbw _).drew⟩
    · have HN := hide ((unhide HC).trans (cB_end a b k hka hkb hl))
      by_cases h1 : k < a.size
      · have t1 : decide ((k : Int) < a.size) = true := decide_eq_true (by omega)
        have t2 : decide (k < b.size) = false := decide_eq_false (by omega)
        clear hl
        go_wp2_with (go_at_call 47; refine (refOrder_any _ _ _).mono ?_; rintro e w' ⟨rfl, rfl⟩)
        go_ret
        exact ⟨ret_int (unhide HN).symm, hbw⟩
      · have t1 : decide ((k : Int) < a.size) = false := decide_eq_false (by omega)
        clear hl
        go_wp2_with (go_at_call 47; refine (refOrder_any _ _ _).mono ?_; rintro e w' ⟨rfl, rfl⟩)
        go_ret
        exact ⟨ret_int (unhide HN).symm, hbw⟩

set_option maxHeartbeats 1000000 in
theorem refValues_any (k n k' n' : Int) (s s' : ByteArray) (w : World) (hs : s.size ≤ 1000) (hs' : s'.size ≤ 1000) :
    Calls Try.prog 31 #[.agg #[.int .i64 k, .int .i64 n, .string s], .agg #[.int .i64 k', .int .i64 n', .string s']] w fun e w' => e = .returned (.int .i64 (cmpV (k, n, s.data.toList) (k', n', s'.data.toList))) ∧ Below w.heap.size w w' := by
  have hB : Below w.heap.size w ((w.alloc (.cells #[.int .i64 k, .int .i64 n, .string s] 23)).alloc (.cells #[.int .i64 k', .int .i64 n', .string s'] 23)) := ((Below.refl _ _).alloc (Nat.le_refl _) _).alloc (by simp) _
  by_cases h1 : Lib.compareInt k k' = 0
  · by_cases h2 : Lib.compareInt n n' = 0
    · have HV := hide (show cmpV (k, n, s.data.toList) (k', n', s'.data.toList) = Lib.compareBytes s.data.toList s'.data.toList by simp [cmpV, orV, h1, h2])
      have e1 : (Lib.compareInt k k' != 0) = false := by simp [h1]
      have e2 : (Lib.compareInt n n' != 0) = false := by simp [h2]
      clear h1 h2
      go_enter Try.func31, Try.ntmps31
      go_wp2_with (first | (go_at_call 47; refine (refOrder_any _ _ _).mono ?_; rintro e w' ⟨rfl, hw⟩; subst hw) | (go_at_call 37; refine (refStrings_any _ _ _ hs hs').mono ?_; rintro e w1 ⟨rfl, k1⟩))
      go_ret
      exact ⟨ret_int (unhide HV).symm, bt hB k1⟩
    · have HV := hide (show cmpV (k, n, s.data.toList) (k', n', s'.data.toList) = Lib.compareInt n n' by simp [cmpV, orV, h1, h2])
      have e1 : (Lib.compareInt k k' != 0) = false := by simp [h1]
      have e2 : (Lib.compareInt n n' != 0) = true := by simp [h2]
      clear h1 h2
      go_enter Try.func31, Try.ntmps31
      go_wp2_with (first | (go_at_call 47; refine (refOrder_any _ _ _).mono ?_; rintro e w' ⟨rfl, hw⟩; subst hw) | (go_at_call 37; refine (refStrings_any _ _ _ hs hs').mono ?_; rintro e w1 ⟨rfl, k1⟩))
      go_ret
      exact ⟨ret_int (unhide HV).symm, hB⟩
  · have HV := hide (show cmpV (k, n, s.data.toList) (k', n', s'.data.toList) = Lib.compareInt k k' by simp [cmpV, orV, h1])
    have e1 : (Lib.compareInt k k' != 0) = true := by simp [h1]
    clear h1
    go_enter Try.func31, Try.ntmps31
    go_wp2_with (first | (go_at_call 47; refine (refOrder_any _ _ _).mono ?_; rintro e w' ⟨rfl, hw⟩; subst hw) | (go_at_call 37; refine (refStrings_any _ _ _ hs hs').mono ?_; rintro e w1 ⟨rfl, k1⟩))
    go_ret
    exact ⟨ret_int (unhide HV).symm, hB⟩

theorem in_byte (c : UInt8) : inB (c.toNat : Int) 32 126 = strC c := rfl

set_option maxHeartbeats 1000000 in
theorem refValue_any (k n : Int) (s : ByteArray) (w : World) (hs : s.size ≤ 1000) :
    Calls Try.prog 19 #[.agg #[.int .i64 k, .int .i64 n, .string s]] w fun e w' => e = .returned (.bool (rightB k n s.data.toList)) ∧ Below w.heap.size w w' := by
  have hlen : s.data.toList.length = s.size := by simp
  have hB : Below w.heap.size w (w.alloc (.cells #[.int .i64 k, .int .i64 n, .string s] 23)) := (Below.refl _ _).alloc (Nat.le_refl _) _
  have hsm : s.size ≤ maxLen := by unfold maxLen; omega
  by_cases k1 : k = 1
  · subst k1
    cases hi : inB n (-4611686018427387904) 4611686018427387904
    · have HV : Hid (rightB 1 n s.data.toList = false) := by
        show _ = _
        have : decide (-4611686018427387904 ≤ n ∧ n ≤ 4611686018427387904) = false := hi
        simp only [rightB, if_true, this, Bool.and_false]
      clear hlen
      go_enter Try.func19, Try.ntmps19
      go_wp2_with (go_at_call 30; refine (refIn_any _ _ _ _).mono ?_; rintro e w' ⟨rfl, hw⟩; subst hw)
      go_ret
      exact ⟨ret_bool (unhide HV), hB⟩
    · have hi' : decide (-4611686018427387904 ≤ n ∧ n ≤ 4611686018427387904) = true := hi
      by_cases hz : s.size = 0
      · have HV : Hid (rightB 1 n s.data.toList = true) := by
          show _ = _
          have : s.data.toList = [] := List.length_eq_zero_iff.1 (by omega)
          simp only [rightB, if_true, hi', this]; rfl
        have e1 : ((s.size : Int) == 0) = true := by rw [beq_iff_eq]; omega
        clear hlen hz hi'
        go_enter Try.func19, Try.ntmps19
        go_wp2_with (go_at_call 30; refine (refIn_any _ _ _ _).mono ?_; rintro e w' ⟨rfl, hw⟩; subst hw)
        go_ret
        exact ⟨ret_bool (unhide HV), hB⟩
      · have HV : Hid (rightB 1 n s.data.toList = false) := by
          show _ = _
          have : s.data.toList.isEmpty = false := by
            rw [← ByteArray.toList_eq, isEmpty_of]; simp [hz]
          simp only [rightB, if_true, this, Bool.false_and]
        have e1 : ((s.size : Int) == 0) = false := by rw [beq_eq_false_iff_ne]; omega
        clear hlen hz hi'
        go_enter Try.func19, Try.ntmps19
        go_wp2_with (go_at_call 30; refine (refIn_any _ _ _ _).mono ?_; rintro e w' ⟨rfl, hw⟩; subst hw)
        go_ret
        exact ⟨ret_bool (unhide HV), hB⟩
  · have b1 : (k == 1) = false := beq_eq_false_iff_ne.2 k1
    by_cases k2 : k = 2
    · subst k2
      cases hn : n == 0
      · have HV : Hid (rightB 2 n s.data.toList = false) := by show _ = _; simp [rightB, hn]
        clear hlen k1
        go_enter Try.func19, Try.ntmps19
        go_wp2_with (go_at_call 36; refine (refWord_any _ _ hsm).mono ?_; rintro e w' ⟨rfl, hw⟩; subst hw)
        go_ret
        exact ⟨ret_bool (unhide HV), hB⟩
      · have HV : Hid (rightB 2 n s.data.toList = symB s.data.toList) := by show _ = _; simp only [rightB, hn]; simp
        clear hlen k1
        go_enter Try.func19, Try.ntmps19
        go_wp2_with (go_at_call 36; refine (refWord_any _ _ hsm).mono ?_; rintro e w' ⟨rfl, hw⟩; subst hw)
        go_ret
        exact ⟨ret_bool (unhide HV), hB⟩
    · have b2 : (k == 2) = false := beq_eq_false_iff_ne.2 k2
      by_cases k3 : k = 3
      · subst k3
        cases hn : n == 0
        · have HV : Hid (rightB 3 n s.data.toList = false) := by show _ = _; simp [rightB, hn]
          have hn' : (n != 0) = true := by simp [bne, hn]
          clear hlen k1 k2
          go_enter Try.func19, Try.ntmps19
          go_wp2
          go_ret
          exact ⟨ret_bool (unhide HV), hB⟩
        · have hn' : (n != 0) = false := by simp [bne, hn]
          by_cases hl : s.size ≤ 60
          · have hd : decide (60 < (s.size : Int)) = false := decide_eq_false (by omega)
            have HV : Hid (rightB 3 n s.data.toList = s.data.toList.all strC) := by show _ = _; simp only [rightB, hn, strB, hlen, hl]; simp
            clear hlen k1 k2 hn
            go_enter Try.func19, Try.ntmps19
            go_wp2
            go_loop [3] (fun i => ∃ j : Nat, j ≤ s.size ∧ i = .int .i64 j ∧ Hid ((s.data.toList.take j).all strC = true)) (fun i => s.size - (intOf i).toNat)
            case atStart => exact ⟨0, Nat.zero_le _, rfl, by rfl⟩
            case round =>
              obtain ⟨j, hj, rfl, HA⟩ := hrel
              by_cases hlt : j < s.size
              · have hw := byte_wrap s[j]
                cases hc : strC s[j]
                · have HI := hide hc
                  have hc' : inB (s[j].toNat : Int) 32 126 = false := hc
                  clear hc
                  go_wp2_with (go_at_call 30; refine (refIn_any _ _ _ _).mono ?_; rintro e w' ⟨rfl, hw⟩; subst hw)
                  go_ret
                  exact ⟨ret_bool (by rw [unhide HV, all_take_get s j hlt (unhide HI)]), hB⟩
                · have HI := hide hc
                  have hc' : inB (s[j].toNat : Int) 32 126 = true := hc
                  clear hc
                  go_wp2_with (go_at_call 30; refine (refIn_any _ _ _ _).mono ?_; rintro e w' ⟨rfl, hw⟩; subst hw)
                  go_round
                  case rel => exact ⟨j + 1, by omega, by go_num, by show _ = _; rw [take_snoc s j hlt, List.all_append, unhide HA]; simp [unhide HI]⟩
                  case measure => simp [intOf]; omega
              · go_wp2
                go_ret
                exact ⟨ret_bool (by rw [unhide HV, ← take_all s j (by omega), unhide HA]), hB⟩
          · have hd : decide (60 < (s.size : Int)) = true := decide_eq_true (by omega)
            have HV : Hid (rightB 3 n s.data.toList = false) := by show _ = _; simp only [rightB, strB, hlen, hl]; simp
            clear hlen k1 k2 hn
            go_enter Try.func19, Try.ntmps19
            go_wp2
            go_ret
            exact ⟨ret_bool (unhide HV), hB⟩
      · have b3 : (k == 3) = false := beq_eq_false_iff_ne.2 k3
        have HV := hide (show rightB k n s.data.toList = false by simp [rightB, k1, k2, k3])
        clear hlen k1 k2 k3
        go_enter Try.func19, Try.ntmps19
        go_wp2
        go_ret
        exact ⟨ret_bool (unhide HV), hB⟩
end Go.Proofs.Ytakhcifhfbiopaa

/- What the document's own function sign answers. -/
import Derived.Test.YtaapeleoiclplaaDoorLexI
namespace Go.Proofs.YtaapeleoiclplaaDoor
open Go.RowKit
open V

namespace V
theorem tail_step {l : List UInt8} {k : Nat} {p : UInt8 → Bool} (h1 : 1 ≤ k) (hk : k < l.length) (h : ((l.drop 1).take (k - 1)).all p = true) (hp : p l[k] = true) : ((l.drop 1).take (k + 1 - 1)).all p = true := by
  have e : k + 1 - 1 = (k - 1) + 1 := by omega
  rw [e, List.take_succ_eq_append_getElem (by simp; omega), List.all_append, h]
  have : (l.drop 1)[k - 1]'(by simp; omega) = l[k] := by
    rw [List.getElem_drop]; congr 1; omega
  rw [List.all_cons, this, hp]; rfl
theorem tail_stop {l : List UInt8} {k : Nat} {p : UInt8 → Bool} (h1 : 1 ≤ k) (hk : k < l.length) (h : ((l.drop 1).take (k - 1)).all p = true) (hp : p l[k] = false) : 1 + ((l.drop 1).takeWhile p).length = k := by
  have h2 : ((l.drop 1).takeWhile p).length = k - 1 := tw_all (by simp; omega) h (by
    have : (l.drop 1)[k - 1]'(by simp; omega) = l[k] := by
      rw [List.getElem_drop]; congr 1; omega
    rw [this]; exact hp)
  omega
theorem tail_end {l : List UInt8} {k : Nat} {p : UInt8 → Bool} (h1 : 1 ≤ k) (hk : k = l.length) (h : ((l.drop 1).take (k - 1)).all p = true) : 1 + ((l.drop 1).takeWhile p).length = k := by
  rw [List.take_of_length_le (by simp; omega)] at h
  rw [tw_whole h, List.length_drop]; omega
end V
theorem head_cons (s : ByteArray) (h : 0 < s.size) : s.data.toList = s[0] :: s.data.toList.drop 1 := by
  have := drop_cons s 0 h
  rw [List.drop_zero] at this; exact this
theorem get_list (s : ByteArray) (k : Nat) (h : k < s.size) : s.data.toList[k]'(by simpa using h) = s[k] := rfl

theorem head_drop (s : ByteArray) (h : 1 < s.size) (p : UInt8 → Bool) : headB p (s.data.toList.drop 1) = p s[1] := by
  rw [drop_cons s 1 h]; rfl
theorem head_short (s : ByteArray) (h : ¬ 1 < s.size) (p : UInt8 → Bool) : headB p (s.data.toList.drop 1) = false := by
  rw [drop_end s 1 (by omega)]; rfl

set_option maxHeartbeats 4000000 in
set_option maxRecDepth 100000 in
theorem refSign_num (s : ByteArray) (w : World) (hs : s.size ≤ 20000) (h0 : 0 < s.size) (c1 : lowB s[0].toNat = false) (c2 : upB s[0].toNat = false) (HD : Hid ((digC s[0] || (s[0] == 45 && headB digC (s.data.toList.drop 1))) = true)) :
    Calls Tryd.prog 19 #[.string s] w fun e w' => e = .returned (.tuple #[.int .i64 (signR s.data.toList).1, .int .i64 (signR s.data.toList).2]) ∧ w' = w := by
  have HS := hide (signL_cons s[0] (s.data.toList.drop 1))
  rw [← head_cons s h0] at HS
  have HZ := hide (size_list s)
  have HL : Hid (¬ letB s[0] = true) := hide (by simp [letB, c1, c2])
  have h45 := byte_eqI s[0] 45 (by decide)
  cases c3 : digC s[0]
  · have hd := unhide HD
    rw [c3, Bool.false_or, Bool.and_eq_true] at hd
    have e45 : ((s[0].toNat : Int) == 45) = true := h45.trans hd.1
    have hs1 : 1 < s.size := by
      by_cases h : 1 < s.size
      · exact h
      · rw [head_short s h] at hd; exact absurd hd.2 (by decide)
    have d1 : digC s[1] = true := by rw [← head_drop s hs1 digC]; exact hd.2
    have t9 : decide ((1 : Int) < (s.size : Int)) = true := decide_eq_true (by omega)
    clear h45 hd
    go_enter Tryd.func19, Tryd.ntmps19
    go_wp2_with (first | (go_at_call 38; refine (refLower_byte _ _).mono ?_; rintro e w9 ⟨rfl, hw9⟩; subst w9) | (go_at_call 39; refine (refUpper_byte _ _).mono ?_; rintro e w9 ⟨rfl, hw9⟩; subst w9) | (go_at_call 41; refine (refDig_byte _ _).mono ?_; rintro e w9 ⟨rfl, hw9⟩; subst w9))
    go_loop [5] (fun i => ∃ k : Nat, 1 ≤ k ∧ k ≤ s.size ∧ i = .int .i64 k ∧ Hid (((s.data.toList.drop 1).take (k - 1)).all digC = true)) (fun i => s.size - (intOf i).toNat)
    case atStart => exact ⟨1, by omega, by omega, rfl, by rfl⟩
    case round =>
      obtain ⟨k, hk1, hk, rfl, HA⟩ := hrel
      by_cases hlt : k < s.size
      · have t1 : decide ((k : Int) < (s.size : Int)) = true := decide_eq_true (by omega)
        cases hi : digC s[k]
        · have HR : Hid (signR s.data.toList = (3, k)) := hide (signR_some (by
            rw [unhide HS, if_neg (unhide HL), if_pos (unhide HD), tail_stop hk1 (by simpa using hlt) (unhide HA) hi]))
          go_wp2_with (first | (go_at_call 41; refine (refDig_byte _ _).mono ?_; rintro e w9 ⟨rfl, hw9⟩; subst w9; rw [hi]) | (go_at_call 38; refine (refLower_byte _ _).mono ?_; rintro e w9 ⟨rfl, hw9⟩; subst w9))
          go_ret2
          exact ⟨ret_two (by rw [unhide HR]) (by rw [unhide HR]), rfl⟩
        · have HA' := hide (tail_step (p := digC) hk1 (by simpa using hlt) (unhide HA) hi)
          go_wp2_with (go_at_call 41; refine (refDig_byte _ _).mono ?_; rintro e w9 ⟨rfl, hw9⟩; subst w9; rw [hi])
          go_round
          case rel => exact ⟨k + 1, by omega, by omega, by go_num, HA'⟩
          case measure => simp [intOf]; omega
      · have t1 : decide ((k : Int) < (s.size : Int)) = false := decide_eq_false (by omega)
        have HR : Hid (signR s.data.toList = (3, k)) := hide (signR_some (by
            rw [unhide HS, if_neg (unhide HL), if_pos (unhide HD), tail_end hk1 (by rw [unhide HZ]; omega) (unhide HA)]))
        go_wp2_with (go_at_call 38; refine (refLower_byte _ _).mono ?_; rintro e w9 ⟨rfl, hw9⟩; subst w9)
        go_ret2
        exact ⟨ret_two (by rw [unhide HR]) (by rw [unhide HR]), rfl⟩
  · clear h45
    go_enter Tryd.func19, Tryd.ntmps19
    go_wp2_with (first | (go_at_call 38; refine (refLower_byte _ _).mono ?_; rintro e w9 ⟨rfl, hw9⟩; subst w9) | (go_at_call 39; refine (refUpper_byte _ _).mono ?_; rintro e w9 ⟨rfl, hw9⟩; subst w9) | (go_at_call 41; refine (refDig_byte _ _).mono ?_; rintro e w9 ⟨rfl, hw9⟩; subst w9))
    go_loop [5] (fun i => ∃ k : Nat, 1 ≤ k ∧ k ≤ s.size ∧ i = .int .i64 k ∧ Hid (((s.data.toList.drop 1).take (k - 1)).all digC = true)) (fun i => s.size - (intOf i).toNat)
    case atStart => exact ⟨1, by omega, by omega, rfl, by rfl⟩
    case round =>
      obtain ⟨k, hk1, hk, rfl, HA⟩ := hrel
      by_cases hlt : k < s.size
      · have t1 : decide ((k : Int) < (s.size : Int)) = true := decide_eq_true (by omega)
        cases hi : digC s[k]
        · have HR : Hid (signR s.data.toList = (3, k)) := hide (signR_some (by
            rw [unhide HS, if_neg (unhide HL), if_pos (unhide HD), tail_stop hk1 (by simpa using hlt) (unhide HA) hi]))
          go_wp2_with (first | (go_at_call 41; refine (refDig_byte _ _).mono ?_; rintro e w9 ⟨rfl, hw9⟩; subst w9; rw [hi]) | (go_at_call 38; refine (refLower_byte _ _).mono ?_; rintro e w9 ⟨rfl, hw9⟩; subst w9))
          go_ret2
          exact ⟨ret_two (by rw [unhide HR]) (by rw [unhide HR]), rfl⟩
        · have HA' := hide (tail_step (p := digC) hk1 (by simpa using hlt) (unhide HA) hi)
          go_wp2_with (go_at_call 41; refine (refDig_byte _ _).mono ?_; rintro e w9 ⟨rfl, hw9⟩; subst w9; rw [hi])
          go_round
          case rel => exact ⟨k + 1, by omega, by omega, by go_num, HA'⟩
          case measure => simp [intOf]; omega
      · have t1 : decide ((k : Int) < (s.size : Int)) = false := decide_eq_false (by omega)
        have HR : Hid (signR s.data.toList = (3, k)) := hide (signR_some (by
            rw [unhide HS, if_neg (unhide HL), if_pos (unhide HD), tail_end hk1 (by rw [unhide HZ]; omega) (unhide HA)]))
        go_wp2_with (go_at_call 38; refine (refLower_byte _ _).mono ?_; rintro e w9 ⟨rfl, hw9⟩; subst w9)
        go_ret2
        exact ⟨ret_two (by rw [unhide HR]) (by rw [unhide HR]), rfl⟩

set_option maxHeartbeats 4000000 in
set_option maxRecDepth 100000 in
theorem refSign_quo (s : ByteArray) (w : World) (hs : s.size ≤ 20000) (h0 : 0 < s.size) (c1 : lowB s[0].toNat = false) (c2 : upB s[0].toNat = false) (c3 : digC s[0] = false) (e34 : ((s[0].toNat : Int) == 34) = true) :
    Calls Tryd.prog 19 #[.string s] w fun e w' => e = .returned (.tuple #[.int .i64 (signR s.data.toList).1, .int .i64 (signR s.data.toList).2]) ∧ w' = w := by
  have HS := signL_cons s[0] (s.data.toList.drop 1)
  rw [← head_cons s h0] at HS
  have hc : s[0] = 34 := UInt8.toNat_inj.1 (by have := beq_iff_eq.1 e34; show s[0].toNat = 34; omega)
  have HSQ : Hid (signL s.data.toList = (strN (s.data.toList.drop 1)).map (fun n => (4, n + 1))) := by
    show _ = _
    rw [HS, if_neg (by simp [letB, c1, c2]), if_neg (by rw [c3, hc, show ((34 : UInt8) == 45) = false from rfl]; simp), if_pos hc]
  have e45 : ((s[0].toNat : Int) == 45) = false := by rw [hc]; rfl
  clear HS hc
  go_enter Tryd.func19, Tryd.ntmps19
  go_wp2_with (first | (go_at_call 38; refine (refLower_byte _ _).mono ?_; rintro e w9 ⟨rfl, hw9⟩; subst w9) | (go_at_call 39; refine (refUpper_byte _ _).mono ?_; rintro e w9 ⟨rfl, hw9⟩; subst w9) | (go_at_call 41; refine (refDig_byte _ _).mono ?_; rintro e w9 ⟨rfl, hw9⟩; subst w9))
  go_loop [5] (fun i => ∃ k : Nat, 1 ≤ k ∧ k ≤ s.size + 1 ∧ i = .int .i64 k ∧ Hid (strN (s.data.toList.drop 1) = (strN (s.data.toList.drop k)).map (· + (k - 1)))) (fun i => s.size + 1 - (intOf i).toNat)
  case atStart => exact ⟨1, by omega, by omega, rfl, by show _ = _; simp⟩
  case round =>
    obtain ⟨k, hk1, hk, rfl, HS2⟩ := hrel
    by_cases hlt : k < s.size
    · have lt1 : decide ((k : Int) < (s.size : Int)) = true := decide_eq_true (by omega)
      have hdc := drop_cons s k hlt
      by_cases e1 : (s[k].toNat : Int) = 34
      · have d1 : ((s[k].toNat : Int) != 34) = false := by simp [e1]
        have lt2 : decide ((s.size : Int) ≤ (k : Int)) = false := decide_eq_false (by omega)
        have HR : Hid (signR s.data.toList = (4, k + 1)) := hide (signR_some (by
          rw [unhide HSQ, unhide HS2, hdc, strN_q e1]
          simp; omega))
        clear e1 hdc
        go_wp2
        go_ret2
        exact ⟨ret_two (by rw [unhide HR]) (by rw [unhide HR]; rfl), rfl⟩
      · have d1 : ((s[k].toNat : Int) != 34) = true := by simp [e1]
        by_cases e2 : (s[k].toNat : Int) = 92
        · have d2 : ((s[k].toNat : Int) == 92) = true := by simp [e2]
          have HS' : Hid (strN (s.data.toList.drop 1) = (strN (s.data.toList.drop (k + 2))).map (· + (k + 2 - 1))) := by
            show _ = _
            by_cases hla : k + 1 < s.size
            · rw [unhide HS2, hdc, drop_cons s (k + 1) hla, strN_esc e2, Option.map_map]
              congr 1
              funext x; simp; omega
            · rw [unhide HS2, hdc, drop_end s (k + 1) (by omega), strN_last e2, drop_end s (k + 2) (by omega)]
              rfl
          clear e1 e2 hdc
          go_wp2
          go_round
          case rel => exact ⟨k + 2, by omega, by omega, by go_num, HS'⟩
          case measure => simp [intOf]; omega
        · have d2 : ((s[k].toNat : Int) == 92) = false := by simp [e2]
          have HS' : Hid (strN (s.data.toList.drop 1) = (strN (s.data.toList.drop (k + 1))).map (· + (k + 1 - 1))) := by
            show _ = _
            rw [unhide HS2, hdc, strN_plain e1 e2, Option.map_map]
            congr 1
            funext x; simp; omega
          clear e1 e2 hdc
          go_wp2
          go_round
          case rel => exact ⟨k + 1, by omega, by omega, by go_num, HS'⟩
          case measure => simp [intOf]; omega
    · have lt1 : decide ((k : Int) < (s.size : Int)) = false := decide_eq_false (by omega)
      have lt2 : decide ((s.size : Int) ≤ (k : Int)) = true := decide_eq_true (by omega)
      have HR : Hid (signR s.data.toList = (0, 0)) := hide (signR_none (by
          rw [unhide HSQ, unhide HS2, drop_end s k (by omega)]; rfl))
      go_wp2
      go_ret2
      exact ⟨ret_two (by rw [unhide HR]) (by rw [unhide HR]; rfl), rfl⟩

set_option maxHeartbeats 4000000 in
set_option maxRecDepth 100000 in
theorem refSign_let (s : ByteArray) (w : World) (hs : s.size ≤ 20000) (h0 : 0 < s.size) (HL : Hid (letB s[0] = true)) :
    Calls Tryd.prog 19 #[.string s] w fun e w' => e = .returned (.tuple #[.int .i64 (signR s.data.toList).1, .int .i64 (signR s.data.toList).2]) ∧ w' = w := by
  have HS := hide (signL_cons s[0] (s.data.toList.drop 1))
  rw [← head_cons s h0] at HS
  have HZ := hide (size_list s)
  cases c1 : lowB s[0].toNat
  · have c2 : upB s[0].toNat = true := by have := unhide HL; simpa [letB, c1] using this
    go_enter Tryd.func19, Tryd.ntmps19
    go_wp2_with (first | (go_at_call 38; refine (refLower_byte _ _).mono ?_; rintro e w9 ⟨rfl, hw9⟩; subst w9) | (go_at_call 39; refine (refUpper_byte _ _).mono ?_; rintro e w9 ⟨rfl, hw9⟩; subst w9) | (go_at_call 41; refine (refDig_byte _ _).mono ?_; rintro e w9 ⟨rfl, hw9⟩; subst w9))
    go_loop [5] (fun i => ∃ k : Nat, 1 ≤ k ∧ k ≤ s.size ∧ i = .int .i64 k ∧ Hid (((s.data.toList.drop 1).take (k - 1)).all innB = true)) (fun i => s.size - (intOf i).toNat)
    case atStart => exact ⟨1, by omega, by omega, rfl, by rfl⟩
    case round =>
      obtain ⟨k, hk1, hk, rfl, HA⟩ := hrel
      by_cases hlt : k < s.size
      · have t1 : decide ((k : Int) < (s.size : Int)) = true := decide_eq_true (by omega)
        cases hi : innB s[k]
        · have HR : Hid (signR s.data.toList = (2, k)) := hide (signR_some (by
            rw [unhide HS, if_pos (unhide HL), tail_stop hk1 (by simpa using hlt) (unhide HA) hi]; rw [c1]; rfl))
          go_wp2_with (first | (go_at_call 40; refine (innerR_byte _ _).mono ?_; rintro e w9 ⟨rfl, hw9⟩; subst w9; rw [hi]) | (go_at_call 38; refine (refLower_byte _ _).mono ?_; rintro e w9 ⟨rfl, hw9⟩; subst w9))
          go_ret2
          exact ⟨ret_two (by rw [unhide HR]) (by rw [unhide HR]), rfl⟩
        · have HA' := hide (tail_step (p := innB) hk1 (by simpa using hlt) (unhide HA) hi)
          go_wp2_with (go_at_call 40; refine (innerR_byte _ _).mono ?_; rintro e w9 ⟨rfl, hw9⟩; subst w9; rw [hi])
          go_round
          case rel => exact ⟨k + 1, by omega, by omega, by go_num, HA'⟩
          case measure => simp [intOf]; omega
      · have t1 : decide ((k : Int) < (s.size : Int)) = false := decide_eq_false (by omega)
        have HR : Hid (signR s.data.toList = (2, k)) := hide (signR_some (by
            rw [unhide HS, if_pos (unhide HL), tail_end hk1 (by rw [unhide HZ]; omega) (unhide HA)]; rw [c1]; rfl))
        go_wp2_with (go_at_call 38; refine (refLower_byte _ _).mono ?_; rintro e w9 ⟨rfl, hw9⟩; subst w9)
        go_ret2
        exact ⟨ret_two (by rw [unhide HR]) (by rw [unhide HR]), rfl⟩
  · skip
    go_enter Tryd.func19, Tryd.ntmps19
    go_wp2_with (first | (go_at_call 38; refine (refLower_byte _ _).mono ?_; rintro e w9 ⟨rfl, hw9⟩; subst w9) | (go_at_call 39; refine (refUpper_byte _ _).mono ?_; rintro e w9 ⟨rfl, hw9⟩; subst w9) | (go_at_call 41; refine (refDig_byte _ _).mono ?_; rintro e w9 ⟨rfl, hw9⟩; subst w9))
    go_loop [5] (fun i => ∃ k : Nat, 1 ≤ k ∧ k ≤ s.size ∧ i = .int .i64 k ∧ Hid (((s.data.toList.drop 1).take (k - 1)).all innB = true)) (fun i => s.size - (intOf i).toNat)
    case atStart => exact ⟨1, by omega, by omega, rfl, by rfl⟩
    case round =>
      obtain ⟨k, hk1, hk, rfl, HA⟩ := hrel
      by_cases hlt : k < s.size
      · have t1 : decide ((k : Int) < (s.size : Int)) = true := decide_eq_true (by omega)
        cases hi : innB s[k]
        · have HR : Hid (signR s.data.toList = (1, k)) := hide (signR_some (by
            rw [unhide HS, if_pos (unhide HL), tail_stop hk1 (by simpa using hlt) (unhide HA) hi]; rw [c1]; rfl))
          go_wp2_with (first | (go_at_call 40; refine (innerR_byte _ _).mono ?_; rintro e w9 ⟨rfl, hw9⟩; subst w9; rw [hi]) | (go_at_call 38; refine (refLower_byte _ _).mono ?_; rintro e w9 ⟨rfl, hw9⟩; subst w9))
          go_ret2
          exact ⟨ret_two (by rw [unhide HR]) (by rw [unhide HR]), rfl⟩
        · have HA' := hide (tail_step (p := innB) hk1 (by simpa using hlt) (unhide HA) hi)
          go_wp2_with (go_at_call 40; refine (innerR_byte _ _).mono ?_; rintro e w9 ⟨rfl, hw9⟩; subst w9; rw [hi])
          go_round
          case rel => exact ⟨k + 1, by omega, by omega, by go_num, HA'⟩
          case measure => simp [intOf]; omega
      · have t1 : decide ((k : Int) < (s.size : Int)) = false := decide_eq_false (by omega)
        have HR : Hid (signR s.data.toList = (1, k)) := hide (signR_some (by
            rw [unhide HS, if_pos (unhide HL), tail_end hk1 (by rw [unhide HZ]; omega) (unhide HA)]; rw [c1]; rfl))
        go_wp2_with (go_at_call 38; refine (refLower_byte _ _).mono ?_; rintro e w9 ⟨rfl, hw9⟩; subst w9)
        go_ret2
        exact ⟨ret_two (by rw [unhide HR]) (by rw [unhide HR]), rfl⟩

theorem extB (s : ByteArray) (h : 1 < s.size) (a b : UInt8) : ((s.extract 0 2).toList == [a, b]) = (s[0] == a && s[1] == b) := by
  rw [ByteArray.toList_eq, twoP s h]
  simp [List.cons_beq_cons]
theorem not_num (s : ByteArray) (h0 : 0 < s.size) (c3 : digC s[0] = false) (hd : ((s[0].toNat : Int) == 45) = false ∨ headB digC (s.data.toList.drop 1) = false) : ¬ (digC s[0] || (s[0] == 45 && headB digC (s.data.toList.drop 1))) = true := by
  have h45 := byte_eqI s[0] 45 (by decide)
  rw [c3, Bool.false_or]
  rcases hd with h | h
  · rw [show (s[0] == 45) = _ from h45.symm]
    show ¬ (((s[0].toNat : Int) == 45) && headB digC (s.data.toList.drop 1)) = true
    rw [h]; simp
  · rw [h]; simp
theorem sign_of_two (s : ByteArray) (h0 : 0 < s.size) (c1 : lowB s[0].toNat = false) (c2 : upB s[0].toNat = false) (c3 : digC s[0] = false) (e34 : ((s[0].toNat : Int) == 34) = false) (hd : ((s[0].toNat : Int) == 45) = false ∨ headB digC (s.data.toList.drop 1) = false) :
    signL s.data.toList = if headB (twoB s[0]) (s.data.toList.drop 1) then some ((5 : Int), 2) else if singB s[0] then some (5, 1) else none := by
  have HS := signL_cons s[0] (s.data.toList.drop 1)
  rw [← head_cons s h0] at HS
  rw [HS, if_neg (by simp [letB, c1, c2]), if_neg (not_num s h0 c3 hd), if_neg]
  intro e
  rw [e] at e34
  exact absurd e34 (by decide)

set_option maxHeartbeats 4000000 in
set_option maxRecDepth 100000 in
theorem refSign_two (s : ByteArray) (w : World) (hs : s.size ≤ 20000) (h1 : 1 < s.size) (c1 : lowB s[0].toNat = false) (c2 : upB s[0].toNat = false) (c3 : digC s[0] = false) (e34 : ((s[0].toNat : Int) == 34) = false) (hd : ((s[0].toNat : Int) == 45) = false ∨ digC s[1] = false) :
    Calls Tryd.prog 19 #[.string s] w fun e w' => e = .returned (.tuple #[.int .i64 (signR s.data.toList).1, .int .i64 (signR s.data.toList).2]) ∧ w' = w := by
  have t9 : decide ((1 : Int) < (s.size : Int)) = true := decide_eq_true (by omega)
  have i9 : (2 : Int) ≤ (s.size : Int) := by omega
  have h0 : 0 < s.size := by omega
  have hst := sign_of_two s h0 c1 c2 c3 e34 (hd.imp id (fun h => by rw [head_drop s h1]; exact h))
  rw [head_drop s h1] at hst
  have x0 := extB s h1 33 61
  have x1 := extB s h1 60 61
  have x2 := extB s h1 45 62
  have x3 := extB s h1 61 62
  have HT := hide (show twoB s[0] s[1] = ((s[0] == 33 && s[1] == 61) || (s[0] == 60 && s[1] == 61) || (s[0] == 45 && s[1] == 62) || (s[0] == 61 && s[1] == 62)) from rfl)
  generalize (s[0] == 33 && s[1] == 61) = b0 at x0 HT
  generalize (s[0] == 60 && s[1] == 61) = b1 at x1 HT
  generalize (s[0] == 45 && s[1] == 62) = b2 at x2 HT
  generalize (s[0] == 61 && s[1] == 62) = b3 at x3 HT
  cases b : (b0 || b1 || b2 || b3)
  · have HR : Hid (signR s.data.toList = if singB s[0] then (5, 1) else (0, 0)) := by
      show _ = _
      rw [unhide HT, b] at hst
      cases hq : singB s[0] with
      | false => rw [hq] at hst; exact signR_none hst
      | true => rw [hq] at hst; exact signR_some hst
    simp only [Bool.or_eq_false_iff] at b
    obtain ⟨⟨⟨rfl, rfl⟩, rfl⟩, rfl⟩ := b
    clear hst
    rcases hd with e45 | d1
    · cases hq : singB s[0]
      · rw [hq] at HR
        go_enter Tryd.func19, Tryd.ntmps19
        go_wp2_with (first | (go_at_call 42; refine (single_any _ _).mono ?_; rintro e w9 ⟨rfl, hw9⟩; subst w9; rw [hq]) | (go_at_call 38; refine (refLower_byte _ _).mono ?_; rintro e w9 ⟨rfl, hw9⟩; subst w9) | (go_at_call 39; refine (refUpper_byte _ _).mono ?_; rintro e w9 ⟨rfl, hw9⟩; subst w9) | (go_at_call 41; refine (refDig_byte _ _).mono ?_; rintro e w9 ⟨rfl, hw9⟩; subst w9))
        go_ret2
        exact ⟨ret_two (by rw [unhide HR]; rfl) (by rw [unhide HR]; rfl), rfl⟩
      · rw [hq] at HR
        go_enter Tryd.func19, Tryd.ntmps19
        go_wp2_with (first | (go_at_call 42; refine (single_any _ _).mono ?_; rintro e w9 ⟨rfl, hw9⟩; subst w9; rw [hq]) | (go_at_call 38; refine (refLower_byte _ _).mono ?_; rintro e w9 ⟨rfl, hw9⟩; subst w9) | (go_at_call 39; refine (refUpper_byte _ _).mono ?_; rintro e w9 ⟨rfl, hw9⟩; subst w9) | (go_at_call 41; refine (refDig_byte _ _).mono ?_; rintro e w9 ⟨rfl, hw9⟩; subst w9))
        go_ret2
        exact ⟨ret_two (by rw [unhide HR]; rfl) (by rw [unhide HR]; rfl), rfl⟩
    · cases hq : singB s[0]
      · rw [hq] at HR
        cases e45 : ((s[0].toNat : Int) == 45)
        · go_enter Tryd.func19, Tryd.ntmps19
          go_wp2_with (first | (go_at_call 42; refine (single_any _ _).mono ?_; rintro e w9 ⟨rfl, hw9⟩; subst w9; rw [hq]) | (go_at_call 38; refine (refLower_byte _ _).mono ?_; rintro e w9 ⟨rfl, hw9⟩; subst w9) | (go_at_call 39; refine (refUpper_byte _ _).mono ?_; rintro e w9 ⟨rfl, hw9⟩; subst w9) | (go_at_call 41; refine (refDig_byte _ _).mono ?_; rintro e w9 ⟨rfl, hw9⟩; subst w9))
          go_ret2
          exact ⟨ret_two (by rw [unhide HR]; rfl) (by rw [unhide HR]; rfl), rfl⟩
        · go_enter Tryd.func19, Tryd.ntmps19
          go_wp2_with (first | (go_at_call 42; refine (single_any _ _).mono ?_; rintro e w9 ⟨rfl, hw9⟩; subst w9; rw [hq]) | (go_at_call 38; refine (refLower_byte _ _).mono ?_; rintro e w9 ⟨rfl, hw9⟩; subst w9) | (go_at_call 39; refine (refUpper_byte _ _).mono ?_; rintro e w9 ⟨rfl, hw9⟩; subst w9) | (go_at_call 41; refine (refDig_byte _ _).mono ?_; rintro e w9 ⟨rfl, hw9⟩; subst w9))
          go_ret2
          exact ⟨ret_two (by rw [unhide HR]; rfl) (by rw [unhide HR]; rfl), rfl⟩
      · rw [hq] at HR
        cases e45 : ((s[0].toNat : Int) == 45)
        · go_enter Tryd.func19, Tryd.ntmps19
          go_wp2_with (first | (go_at_call 42; refine (single_any _ _).mono ?_; rintro e w9 ⟨rfl, hw9⟩; subst w9; rw [hq]) | (go_at_call 38; refine (refLower_byte _ _).mono ?_; rintro e w9 ⟨rfl, hw9⟩; subst w9) | (go_at_call 39; refine (refUpper_byte _ _).mono ?_; rintro e w9 ⟨rfl, hw9⟩; subst w9) | (go_at_call 41; refine (refDig_byte _ _).mono ?_; rintro e w9 ⟨rfl, hw9⟩; subst w9))
          go_ret2
          exact ⟨ret_two (by rw [unhide HR]; rfl) (by rw [unhide HR]; rfl), rfl⟩
        · go_enter Tryd.func19, Tryd.ntmps19
          go_wp2_with (first | (go_at_call 42; refine (single_any _ _).mono ?_; rintro e w9 ⟨rfl, hw9⟩; subst w9; rw [hq]) | (go_at_call 38; refine (refLower_byte _ _).mono ?_; rintro e w9 ⟨rfl, hw9⟩; subst w9) | (go_at_call 39; refine (refUpper_byte _ _).mono ?_; rintro e w9 ⟨rfl, hw9⟩; subst w9) | (go_at_call 41; refine (refDig_byte _ _).mono ?_; rintro e w9 ⟨rfl, hw9⟩; subst w9))
          go_ret2
          exact ⟨ret_two (by rw [unhide HR]; rfl) (by rw [unhide HR]; rfl), rfl⟩
  · have HR : Hid (signR s.data.toList = (5, 2)) := hide (signR_some (by rw [hst, unhide HT, b]; rfl))
    clear hst HT
    cases e45 : ((s[0].toNat : Int) == 45)
    · clear hd
      go_enter Tryd.func19, Tryd.ntmps19
      cases b0 <;> cases b1 <;> cases b2 <;> cases b3 <;> first
        | (exact absurd b (by decide))
        | (go_wp2_with (first | (go_at_call 38; refine (refLower_byte _ _).mono ?_; rintro e w9 ⟨rfl, hw9⟩; subst w9) | (go_at_call 39; refine (refUpper_byte _ _).mono ?_; rintro e w9 ⟨rfl, hw9⟩; subst w9) | (go_at_call 41; refine (refDig_byte _ _).mono ?_; rintro e w9 ⟨rfl, hw9⟩; subst w9))
           go_ret2
           exact ⟨ret_two (by rw [unhide HR]) (by rw [unhide HR]; rfl), rfl⟩)
    · rcases hd with e45' | d1
      · rw [e45] at e45'; cases e45'
      go_enter Tryd.func19, Tryd.ntmps19
      cases b0 <;> cases b1 <;> cases b2 <;> cases b3 <;> first
        | (exact absurd b (by decide))
        | (go_wp2_with (first | (go_at_call 38; refine (refLower_byte _ _).mono ?_; rintro e w9 ⟨rfl, hw9⟩; subst w9) | (go_at_call 39; refine (refUpper_byte _ _).mono ?_; rintro e w9 ⟨rfl, hw9⟩; subst w9) | (go_at_call 41; refine (refDig_byte _ _).mono ?_; rintro e w9 ⟨rfl, hw9⟩; subst w9))
           go_ret2
           exact ⟨ret_two (by rw [unhide HR]) (by rw [unhide HR]; rfl), rfl⟩)

set_option maxHeartbeats 4000000 in
set_option maxRecDepth 100000 in
theorem refSign_one (s : ByteArray) (w : World) (h0 : 0 < s.size) (h1 : ¬ 1 < s.size) (c1 : lowB s[0].toNat = false) (c2 : upB s[0].toNat = false) (c3 : digC s[0] = false) (e34 : ((s[0].toNat : Int) == 34) = false) :
    Calls Tryd.prog 19 #[.string s] w fun e w' => e = .returned (.tuple #[.int .i64 (signR s.data.toList).1, .int .i64 (signR s.data.toList).2]) ∧ w' = w := by
  have t9 : decide ((1 : Int) < (s.size : Int)) = false := decide_eq_false (by omega)
  have hst := sign_of_two s h0 c1 c2 c3 e34 (Or.inr (head_short s h1 digC))
  rw [head_short s h1] at hst
  cases hq : singB s[0]
  · have HR := hide (signR_none (by rw [hst, hq]; rfl))
    clear hst
    cases e45 : ((s[0].toNat : Int) == 45)
    · go_enter Tryd.func19, Tryd.ntmps19
      go_wp2_with (first | (go_at_call 42; refine (single_any _ _).mono ?_; rintro e w9 ⟨rfl, hw9⟩; subst w9; rw [hq]) | (go_at_call 38; refine (refLower_byte _ _).mono ?_; rintro e w9 ⟨rfl, hw9⟩; subst w9) | (go_at_call 39; refine (refUpper_byte _ _).mono ?_; rintro e w9 ⟨rfl, hw9⟩; subst w9) | (go_at_call 41; refine (refDig_byte _ _).mono ?_; rintro e w9 ⟨rfl, hw9⟩; subst w9))
      go_ret2
      exact ⟨ret_two (by rw [unhide HR]) (by rw [unhide HR]; rfl), rfl⟩
    · go_enter Tryd.func19, Tryd.ntmps19
      go_wp2_with (first | (go_at_call 42; refine (single_any _ _).mono ?_; rintro e w9 ⟨rfl, hw9⟩; subst w9; rw [hq]) | (go_at_call 38; refine (refLower_byte _ _).mono ?_; rintro e w9 ⟨rfl, hw9⟩; subst w9) | (go_at_call 39; refine (refUpper_byte _ _).mono ?_; rintro e w9 ⟨rfl, hw9⟩; subst w9) | (go_at_call 41; refine (refDig_byte _ _).mono ?_; rintro e w9 ⟨rfl, hw9⟩; subst w9))
      go_ret2
      exact ⟨ret_two (by rw [unhide HR]) (by rw [unhide HR]; rfl), rfl⟩
  · have HR := hide (signR_some (k := 5) (n := 1) (by rw [hst, hq]; rfl))
    clear hst
    cases e45 : ((s[0].toNat : Int) == 45)
    · go_enter Tryd.func19, Tryd.ntmps19
      go_wp2_with (first | (go_at_call 42; refine (single_any _ _).mono ?_; rintro e w9 ⟨rfl, hw9⟩; subst w9; rw [hq]) | (go_at_call 38; refine (refLower_byte _ _).mono ?_; rintro e w9 ⟨rfl, hw9⟩; subst w9) | (go_at_call 39; refine (refUpper_byte _ _).mono ?_; rintro e w9 ⟨rfl, hw9⟩; subst w9) | (go_at_call 41; refine (refDig_byte _ _).mono ?_; rintro e w9 ⟨rfl, hw9⟩; subst w9))
      go_ret2
      exact ⟨ret_two (by rw [unhide HR]) (by rw [unhide HR]; rfl), rfl⟩
    · go_enter Tryd.func19, Tryd.ntmps19
      go_wp2_with (first | (go_at_call 42; refine (single_any _ _).mono ?_; rintro e w9 ⟨rfl, hw9⟩; subst w9; rw [hq]) | (go_at_call 38; refine (refLower_byte _ _).mono ?_; rintro e w9 ⟨rfl, hw9⟩; subst w9) | (go_at_call 39; refine (refUpper_byte _ _).mono ?_; rintro e w9 ⟨rfl, hw9⟩; subst w9) | (go_at_call 41; refine (refDig_byte _ _).mono ?_; rintro e w9 ⟨rfl, hw9⟩; subst w9))
      go_ret2
      exact ⟨ret_two (by rw [unhide HR]) (by rw [unhide HR]; rfl), rfl⟩

theorem refSign_any (s : ByteArray) (w : World) (hs : s.size ≤ 20000) (h0 : 0 < s.size) :
    Calls Tryd.prog 19 #[.string s] w fun e w' => e = .returned (.tuple #[.int .i64 (signR s.data.toList).1, .int .i64 (signR s.data.toList).2]) ∧ w' = w := by
  cases hl : letB s[0]
  case true => exact refSign_let s w hs h0 (hide hl)
  have c1 : lowB s[0].toNat = false := by
    cases h : lowB s[0].toNat with
    | false => rfl
    | true => simp [letB, h] at hl
  have c2 : upB s[0].toNat = false := by
    cases h : upB s[0].toNat with
    | false => rfl
    | true => simp [letB, h] at hl
  cases hn : (digC s[0] || (s[0] == 45 && headB digC (s.data.toList.drop 1)))
  case true => exact refSign_num s w hs h0 c1 c2 (hide hn)
  rw [Bool.or_eq_false_iff] at hn
  obtain ⟨c3, hn⟩ := hn
  cases e34 : ((s[0].toNat : Int) == 34)
  case true => exact refSign_quo s w hs h0 c1 c2 c3 e34
  by_cases h1 : 1 < s.size
  · refine refSign_two s w hs h1 c1 c2 c3 e34 ?_
    rw [Bool.and_eq_false_iff, head_drop s h1] at hn
    have h45 := byte_eqI s[0] 45 (by decide)
    exact hn.imp (fun h => h45.trans h) id
  · exact refSign_one s w h0 h1 c1 c2 c3 e34
end Go.Proofs.YtaapeleoiclplaaDoor

/- What lex asks of a byte, how far a run of bytes goes. -/
import Derived.Test.YtaapeleoiclplaaDoorOwnV
import Derived.Test.YtaapeleoiclplaaDoorOwnD
namespace Go.Proofs.YtaapeleoiclplaaDoor
open Go.RowKit
open V

set_option maxHeartbeats 400000 in
theorem lexDigit_any (c : Int) (w : World) (h0 : 0 ≤ c) (h1 : c ≤ 255) :
    Calls Tryd.prog 47 #[.int .u8 c] w fun e w' => e = .returned (.bool (digB c)) ∧ w' = w := by
  by_cases ha : 48 ≤ c
  · by_cases hb : c ≤ 57
    · rw [digB_t ha hb]
      go_enter Tryd.func47, Tryd.ntmps47
      go_wp2
      go_ret
      exact ⟨rfl, rfl⟩
    · rw [digB_f (by omega)]
      go_enter Tryd.func47, Tryd.ntmps47
      go_wp2
      go_ret
      exact ⟨rfl, rfl⟩
  · rw [digB_f (by omega)]
    go_enter Tryd.func47, Tryd.ntmps47
    go_wp2
    go_ret
    exact ⟨rfl, rfl⟩

theorem lexDigit_byte (c : UInt8) (w : World) : Calls Tryd.prog 47 #[.int .u8 c.toNat] w fun e w' => e = .returned (.bool (digB c.toNat)) ∧ w' = w :=
  lexDigit_any _ _ (by omega) (by have := c.toNat_lt; omega)
set_option maxHeartbeats 400000 in
theorem lexLower_any (c : Int) (w : World) (h0 : 0 ≤ c) (h1 : c ≤ 255) :
    Calls Tryd.prog 27 #[.int .u8 c] w fun e w' => e = .returned (.bool (lowB c)) ∧ w' = w := by
  by_cases ha : 97 ≤ c
  · by_cases hb : c ≤ 122
    · rw [lowB_t ha hb]
      go_enter Tryd.func27, Tryd.ntmps27
      go_wp2
      go_ret
      exact ⟨rfl, rfl⟩
    · rw [lowB_f (by omega)]
      go_enter Tryd.func27, Tryd.ntmps27
      go_wp2
      go_ret
      exact ⟨rfl, rfl⟩
  · rw [lowB_f (by omega)]
    go_enter Tryd.func27, Tryd.ntmps27
    go_wp2
    go_ret
    exact ⟨rfl, rfl⟩

theorem lexLower_byte (c : UInt8) (w : World) : Calls Tryd.prog 27 #[.int .u8 c.toNat] w fun e w' => e = .returned (.bool (lowB c.toNat)) ∧ w' = w :=
  lexLower_any _ _ (by omega) (by have := c.toNat_lt; omega)
set_option maxHeartbeats 400000 in
theorem lexUpper_any (c : Int) (w : World) (h0 : 0 ≤ c) (h1 : c ≤ 255) :
    Calls Tryd.prog 29 #[.int .u8 c] w fun e w' => e = .returned (.bool (upB c)) ∧ w' = w := by
  by_cases ha : 65 ≤ c
  · by_cases hb : c ≤ 90
    · rw [upB_t ha hb]
      go_enter Tryd.func29, Tryd.ntmps29
      go_wp2
      go_ret
      exact ⟨rfl, rfl⟩
    · rw [upB_f (by omega)]
      go_enter Tryd.func29, Tryd.ntmps29
      go_wp2
      go_ret
      exact ⟨rfl, rfl⟩
  · rw [upB_f (by omega)]
    go_enter Tryd.func29, Tryd.ntmps29
    go_wp2
    go_ret
    exact ⟨rfl, rfl⟩

theorem lexUpper_byte (c : UInt8) (w : World) : Calls Tryd.prog 29 #[.int .u8 c.toNat] w fun e w' => e = .returned (.bool (upB c.toNat)) ∧ w' = w :=
  lexUpper_any _ _ (by omega) (by have := c.toNat_lt; omega)

set_option maxHeartbeats 1000000 in
theorem lexInner_byte (c : UInt8) (w : World) : Calls Tryd.prog 28 #[.int .u8 c.toNat] w fun e w' => e = .returned (.bool (innB c)) ∧ w' = w := by
  cases c1 : lowB c.toNat
  · cases c2 : upB c.toNat
    · cases c3 : digB c.toNat
      · cases c4 : (c.toNat : Int) == 95
        · have HI := hide (show innB c = false by simp only [innB, c1, c2, c3, c4]; rfl)
          go_enter Tryd.func28, Tryd.ntmps28
          go_wp2_with (first | (go_at_call 27; refine (lexLower_byte _ _).mono ?_; rintro e w' ⟨rfl, rfl⟩) | (go_at_call 29; refine (lexUpper_byte _ _).mono ?_; rintro e w' ⟨rfl, rfl⟩) | (go_at_call 47; refine (lexDigit_byte _ _).mono ?_; rintro e w' ⟨rfl, rfl⟩))
          go_ret
          exact ⟨ret_bool (unhide HI), rfl⟩
        · have HI := hide (show innB c = true by simp only [innB, c1, c2, c3, c4]; rfl)
          go_enter Tryd.func28, Tryd.ntmps28
          go_wp2_with (first | (go_at_call 27; refine (lexLower_byte _ _).mono ?_; rintro e w' ⟨rfl, rfl⟩) | (go_at_call 29; refine (lexUpper_byte _ _).mono ?_; rintro e w' ⟨rfl, rfl⟩) | (go_at_call 47; refine (lexDigit_byte _ _).mono ?_; rintro e w' ⟨rfl, rfl⟩))
          go_ret
          exact ⟨ret_bool (unhide HI), rfl⟩
      · have HI := hide (show innB c = true by simp [innB, c3])
        go_enter Tryd.func28, Tryd.ntmps28
        go_wp2_with (first | (go_at_call 27; refine (lexLower_byte _ _).mono ?_; rintro e w' ⟨rfl, rfl⟩) | (go_at_call 29; refine (lexUpper_byte _ _).mono ?_; rintro e w' ⟨rfl, rfl⟩) | (go_at_call 47; refine (lexDigit_byte _ _).mono ?_; rintro e w' ⟨rfl, rfl⟩))
        go_ret
        exact ⟨ret_bool (unhide HI), rfl⟩
    · have HI := hide (show innB c = true by simp [innB, c2])
      go_enter Tryd.func28, Tryd.ntmps28
      go_wp2_with (first | (go_at_call 27; refine (lexLower_byte _ _).mono ?_; rintro e w' ⟨rfl, rfl⟩) | (go_at_call 29; refine (lexUpper_byte _ _).mono ?_; rintro e w' ⟨rfl, rfl⟩) | (go_at_call 47; refine (lexDigit_byte _ _).mono ?_; rintro e w' ⟨rfl, rfl⟩))
      go_ret
      exact ⟨ret_bool (unhide HI), rfl⟩
  · have HI := hide (show innB c = true by simp [innB, c1])
    go_enter Tryd.func28, Tryd.ntmps28
    go_wp2_with (first | (go_at_call 27; refine (lexLower_byte _ _).mono ?_; rintro e w' ⟨rfl, rfl⟩) | (go_at_call 29; refine (lexUpper_byte _ _).mono ?_; rintro e w' ⟨rfl, rfl⟩) | (go_at_call 47; refine (lexDigit_byte _ _).mono ?_; rintro e w' ⟨rfl, rfl⟩))
    go_ret
    exact ⟨ret_bool (unhide HI), rfl⟩

set_option maxHeartbeats 1000000 in
theorem innerR_byte (c : UInt8) (w : World) : Calls Tryd.prog 40 #[.int .u8 c.toNat] w fun e w' => e = .returned (.bool (innB c)) ∧ w' = w := by
  cases c1 : lowB c.toNat
  · cases c2 : upB c.toNat
    · cases c3 : digB c.toNat
      · cases c4 : (c.toNat : Int) == 95
        · have HI := hide (show innB c = false by simp only [innB, c1, c2, c3, c4]; rfl)
          go_enter Tryd.func40, Tryd.ntmps40
          go_wp2_with (first | (go_at_call 38; refine (refLower_byte _ _).mono ?_; rintro e w' ⟨rfl, rfl⟩) | (go_at_call 39; refine (refUpper_byte _ _).mono ?_; rintro e w' ⟨rfl, rfl⟩) | (go_at_call 41; refine (refDigit_byte _ _).mono ?_; rintro e w' ⟨rfl, rfl⟩))
          go_ret
          exact ⟨ret_bool (unhide HI), rfl⟩
        · have HI := hide (show innB c = true by simp only [innB, c1, c2, c3, c4]; rfl)
          go_enter Tryd.func40, Tryd.ntmps40
          go_wp2_with (first | (go_at_call 38; refine (refLower_byte _ _).mono ?_; rintro e w' ⟨rfl, rfl⟩) | (go_at_call 39; refine (refUpper_byte _ _).mono ?_; rintro e w' ⟨rfl, rfl⟩) | (go_at_call 41; refine (refDigit_byte _ _).mono ?_; rintro e w' ⟨rfl, rfl⟩))
          go_ret
          exact ⟨ret_bool (unhide HI), rfl⟩
      · have HI := hide (show innB c = true by simp [innB, c3])
        go_enter Tryd.func40, Tryd.ntmps40
        go_wp2_with (first | (go_at_call 38; refine (refLower_byte _ _).mono ?_; rintro e w' ⟨rfl, rfl⟩) | (go_at_call 39; refine (refUpper_byte _ _).mono ?_; rintro e w' ⟨rfl, rfl⟩) | (go_at_call 41; refine (refDigit_byte _ _).mono ?_; rintro e w' ⟨rfl, rfl⟩))
        go_ret
        exact ⟨ret_bool (unhide HI), rfl⟩
    · have HI := hide (show innB c = true by simp [innB, c2])
      go_enter Tryd.func40, Tryd.ntmps40
      go_wp2_with (first | (go_at_call 38; refine (refLower_byte _ _).mono ?_; rintro e w' ⟨rfl, rfl⟩) | (go_at_call 39; refine (refUpper_byte _ _).mono ?_; rintro e w' ⟨rfl, rfl⟩) | (go_at_call 41; refine (refDigit_byte _ _).mono ?_; rintro e w' ⟨rfl, rfl⟩))
      go_ret
      exact ⟨ret_bool (unhide HI), rfl⟩
  · have HI := hide (show innB c = true by simp [innB, c1])
    go_enter Tryd.func40, Tryd.ntmps40
    go_wp2_with (first | (go_at_call 38; refine (refLower_byte _ _).mono ?_; rintro e w' ⟨rfl, rfl⟩) | (go_at_call 39; refine (refUpper_byte _ _).mono ?_; rintro e w' ⟨rfl, rfl⟩) | (go_at_call 41; refine (refDigit_byte _ _).mono ?_; rintro e w' ⟨rfl, rfl⟩))
    go_ret
    exact ⟨ret_bool (unhide HI), rfl⟩

theorem byte_eqI (c : UInt8) (n : Nat) (h : n < 256) : ((c.toNat : Int) == n) = (c == UInt8.ofNat n) := by
  rw [Bool.eq_iff_iff, beq_iff_eq, beq_iff_eq]
  constructor
  · intro e
    have : c.toNat = n := by omega
    rw [← this, UInt8.ofNat_toNat]
  · intro e
    rw [e, UInt8.toNat_ofNat']
    have : n % 2 ^ 8 = n := Nat.mod_eq_of_lt h
    omega
set_option maxHeartbeats 1000000 in
theorem lexBlank_byte (c : UInt8) (w : World) : Calls Tryd.prog 26 #[.int .u8 c.toNat] w fun e w' => e = .returned (.bool (blankB c)) ∧ w' = w := by
  have HB : Hid (blankB c = (((c.toNat : Int) == 32) || ((c.toNat : Int) == 9) || ((c.toNat : Int) == 13) || ((c.toNat : Int) == 10))) := by
    show _ = _
    have h1 := byte_eqI c 32 (by decide)
    have h2 := byte_eqI c 9 (by decide)
    have h3 := byte_eqI c 13 (by decide)
    have h4 := byte_eqI c 10 (by decide)
    simp only [blankB]
    rw [show ((c.toNat : Int) == 32) = _ from h1, show ((c.toNat : Int) == 9) = _ from h2, show ((c.toNat : Int) == 13) = _ from h3, show ((c.toNat : Int) == 10) = _ from h4]
    rfl
  cases c1 : (c.toNat : Int) == 32
  · cases c2 : (c.toNat : Int) == 9
    · cases c3 : (c.toNat : Int) == 13
      · cases c4 : (c.toNat : Int) == 10
        · have HI := hide (show blankB c = false by rw [unhide HB, c1, c2, c3, c4]; rfl)
          go_enter Tryd.func26, Tryd.ntmps26
          go_wp2
          go_ret
          exact ⟨ret_bool (unhide HI), rfl⟩
        · have HI := hide (show blankB c = true by rw [unhide HB, c1, c2, c3, c4]; rfl)
          go_enter Tryd.func26, Tryd.ntmps26
          go_wp2
          go_ret
          exact ⟨ret_bool (unhide HI), rfl⟩
      · have HI := hide (show blankB c = true by rw [unhide HB, c1, c2, c3]; rfl)
        go_enter Tryd.func26, Tryd.ntmps26
        go_wp2
        go_ret
        exact ⟨ret_bool (unhide HI), rfl⟩
    · have HI := hide (show blankB c = true by rw [unhide HB, c1, c2]; rfl)
      go_enter Tryd.func26, Tryd.ntmps26
      go_wp2
      go_ret
      exact ⟨ret_bool (unhide HI), rfl⟩
  · have HI := hide (show blankB c = true by rw [unhide HB, c1]; rfl)
    go_enter Tryd.func26, Tryd.ntmps26
    go_wp2
    go_ret
    exact ⟨ret_bool (unhide HI), rfl⟩
theorem lexInLine_byte (c : UInt8) (w : World) : Calls Tryd.prog 25 #[.int .u8 c.toNat] w fun e w' => e = .returned (.bool (c != 10)) ∧ w' = w := by
  have HI := hide (show (c != 10) = ((c.toNat : Int) != 10) by
    have h4 := byte_eqI c 10 (by decide)
    show (!(c == 10)) = (!((c.toNat : Int) == 10))
    rw [show ((c.toNat : Int) == 10) = _ from h4]; rfl)
  go_enter Tryd.func25, Tryd.ntmps25
  go_wp2
  go_ret
  exact ⟨ret_bool (unhide HI), rfl⟩

namespace V
theorem tw_all {p : UInt8 → Bool} {l : List UInt8} {k : Nat} (hk : k < l.length) (h : (l.take k).all p = true) (hp : p l[k] = false) : (l.takeWhile p).length = k := by
  induction l generalizing k with
  | nil => simp at hk
  | cons a l ih =>
    cases k with
    | zero => rw [List.takeWhile_cons, if_neg (by simpa using hp)]; rfl
    | succ k =>
      simp only [List.take_succ_cons, List.all_cons, Bool.and_eq_true] at h
      rw [List.takeWhile_cons, if_pos h.1, List.length_cons, ih (by simpa using hk) h.2 (by simpa using hp)]
theorem tw_whole {p : UInt8 → Bool} {l : List UInt8} (h : l.all p = true) : (l.takeWhile p).length = l.length := by
  induction l with
  | nil => rfl
  | cons a l ih =>
    simp only [List.all_cons, Bool.and_eq_true] at h
    rw [List.takeWhile_cons, if_pos h.1, List.length_cons, ih h.2, List.length_cons]
end V

set_option maxHeartbeats 1000000 in
set_option maxRecDepth 100000 in
theorem span_any (s : ByteArray) (f : Nat) (p : UInt8 → Bool) (w : World) (hs : s.size ≤ 20000) (hrun : Hid (∀ (a : Array Value) (w : World), (callFunc f a).run Tryd.prog w = .ok (.enter f a) w))
    (hp : ∀ (c : UInt8) (w : World), Calls Tryd.prog f #[.int .u8 c.toNat] w fun e w' => e = .returned (.bool (p c)) ∧ w' = w) :
    Calls Tryd.prog 24 #[.string s, .func (.func f) #[] #[]] w fun e w' => e = .returned (.int .i64 (s.data.toList.takeWhile p).length) ∧ w' = w := by
  go_enter Tryd.func24, Tryd.ntmps24
  go_wp2
  go_loop [8] (fun i => ∃ k : Nat, k ≤ s.size ∧ i = .int .i64 k ∧ Hid ((s.data.toList.take k).all p = true)) (fun i => s.size - (intOf i).toNat)
  case atStart => exact ⟨0, Nat.zero_le _, rfl, by rfl⟩
  case round =>
    obtain ⟨k, hk, rfl, HA⟩ := hrel
    by_cases hlt : k < s.size
    · have hl : s.data.toList.length = s.size := by simp
      have hg : s.data.toList[k]'(by rw [hl]; exact hlt) = s[k] := rfl
      cases hi : p s[k]
      · have HR := hide (tw_all (p := p) (l := s.data.toList) (k := k) (by rw [hl]; exact hlt) (unhide HA) (by rw [hg]; exact hi))
        have HP := hide (hp s[k])
        clear hg hl hp
        go_wp2_with fail
        rw [unhide hrun, Oper.upon_enter]
        refine (unhide HP _).mono ?_
        rintro e w1 ⟨rfl, rfl⟩
        rw [hi]
        go_wp2_with fail
        go_ret
        exact ⟨by rw [unhide HR]; rfl, rfl⟩
      · have HA' : Hid ((s.data.toList.take (k + 1)).all p = true) := by
          show _ = _
          rw [take_snoc s k hlt, List.all_append, unhide HA]; simp [hi]
        have HP := hide (hp s[k])
        clear hg hl hp
        go_wp2_with fail
        rw [unhide hrun, Oper.upon_enter]
        refine (unhide HP _).mono ?_
        rintro e w1 ⟨rfl, rfl⟩
        rw [hi]
        go_wp2_with fail
        go_round
        case rel => exact ⟨k + 1, by omega, by go_num, HA'⟩
        case measure => simp [intOf]; omega
    · have HR : Hid ((s.data.toList.takeWhile p).length = s.size) := by
        show _ = _
        have h := unhide HA
        rw [take_all s k (by omega)] at h
        rw [tw_whole h]; simp
      go_wp2_with fail
      go_ret
      exact ⟨by rw [unhide HR]; rfl, rfl⟩

theorem enters {f : FuncId} {fn : Func} (hf : Tryd.prog.funcs[f]? = some fn) (hname : (fn.name == "runtime.NumGoroutine") = false) (hb : fn.body.isSome = true) :
    Hid (∀ (a : Array Value) (w : World), (callFunc f a).run Tryd.prog w = .ok (.enter f a) w) := by
  refine hide (fun args w => ?_)
  have h1 : fn.name ≠ "runtime.NumGoroutine" := by simpa using hname
  obtain ⟨c, hc⟩ := Option.isSome_iff_exists.1 hb
  simp [callFunc, hf, h1, hc]
theorem span25 (s : ByteArray) (w : World) (hs : s.size ≤ 20000) : Calls Tryd.prog 24 #[.string s, .func (.func 25) #[] #[]] w fun e w' => e = .returned (.int .i64 (s.data.toList.takeWhile (· != 10)).length) ∧ w' = w :=
  span_any s 25 (· != 10) w hs (enters Tryd.func25 (by kernel_rfl) (by kernel_rfl)) lexInLine_byte
theorem span26 (s : ByteArray) (w : World) (hs : s.size ≤ 20000) : Calls Tryd.prog 24 #[.string s, .func (.func 26) #[] #[]] w fun e w' => e = .returned (.int .i64 (s.data.toList.takeWhile blankB).length) ∧ w' = w :=
  span_any s 26 blankB w hs (enters Tryd.func26 (by kernel_rfl) (by kernel_rfl)) lexBlank_byte
theorem span28 (s : ByteArray) (w : World) (hs : s.size ≤ 20000) : Calls Tryd.prog 24 #[.string s, .func (.func 28) #[] #[]] w fun e w' => e = .returned (.int .i64 (s.data.toList.takeWhile innB).length) ∧ w' = w :=
  span_any s 28 innB w hs (enters Tryd.func28 (by kernel_rfl) (by kernel_rfl)) lexInner_byte
theorem span47 (s : ByteArray) (w : World) (hs : s.size ≤ 20000) : Calls Tryd.prog 24 #[.string s, .func (.func 47) #[] #[]] w fun e w' => e = .returned (.int .i64 (s.data.toList.takeWhile digC).length) ∧ w' = w :=
  span_any s 47 digC w hs (enters Tryd.func47 (by kernel_rfl) (by kernel_rfl)) lexDigit_byte
end Go.Proofs.YtaapeleoiclplaaDoor

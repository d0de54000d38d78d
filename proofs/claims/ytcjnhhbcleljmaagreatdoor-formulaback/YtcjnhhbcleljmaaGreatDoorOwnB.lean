/- What the functions of package val that only look at bytes return. -/
import Derived.Test.YtcjnhhbcleljmaaGreatDoorRows
import Derived.Test.YtcjnhhbcleljmaaGreatDoorOwnA
import Derived.WalkKit
import Derived.WalkSpells
import Derived.WalkLawsBesides
namespace Go.Proofs.YtcjnhhbcleljmaaGreatDoor
open Go.RowKit
open V

theorem ret_bool {a b : Bool} (h : b = a) : Ending.returned (.bool a) = .returned (.bool b) := by rw [h]
theorem ret_int {k : IntKind} {a b : Int} (h : a = b) : Ending.returned (.int k a) = .returned (.int k b) := by rw [h]
theorem ret_str {a b : ByteArray} (h : a = b) : Ending.returned (.string a) = .returned (.string b) := by rw [h]

set_option maxHeartbeats 400000 in
theorem isDigit_any (c : Int) (w : World) (h0 : 0 ≤ c) (h1 : c ≤ 255) :
    Calls Tryz.prog 204 #[.int .u8 c] w fun e w' => e = .returned (.bool (digB c)) ∧ w' = w := by
  by_cases ha : 48 ≤ c
  · by_cases hb : c ≤ 57
    · rw [digB_t ha hb]
      go_enter Tryz.func204, Tryz.ntmps204
      go_wp2
      go_ret
      exact ⟨rfl, rfl⟩
    · rw [digB_f (by omega)]
      go_enter Tryz.func204, Tryz.ntmps204
      go_wp2
      go_ret
      exact ⟨rfl, rfl⟩
  · rw [digB_f (by omega)]
    go_enter Tryz.func204, Tryz.ntmps204
    go_wp2
    go_ret
    exact ⟨rfl, rfl⟩

set_option maxHeartbeats 400000 in
theorem isLower_any (c : Int) (w : World) (h0 : 0 ≤ c) (h1 : c ≤ 255) :
    Calls Tryz.prog 202 #[.int .u8 c] w fun e w' => e = .returned (.bool (lowB c)) ∧ w' = w := by
  by_cases ha : 97 ≤ c
  · by_cases hb : c ≤ 122
    · rw [lowB_t ha hb]
      go_enter Tryz.func202, Tryz.ntmps202
      go_wp2
      go_ret
      exact ⟨rfl, rfl⟩
    · rw [lowB_f (by omega)]
      go_enter Tryz.func202, Tryz.ntmps202
      go_wp2
      go_ret
      exact ⟨rfl, rfl⟩
  · rw [lowB_f (by omega)]
    go_enter Tryz.func202, Tryz.ntmps202
    go_wp2
    go_ret
    exact ⟨rfl, rfl⟩

set_option maxHeartbeats 400000 in
theorem isUpper_any (c : Int) (w : World) (h0 : 0 ≤ c) (h1 : c ≤ 255) :
    Calls Tryz.prog 203 #[.int .u8 c] w fun e w' => e = .returned (.bool (upB c)) ∧ w' = w := by
  by_cases ha : 65 ≤ c
  · by_cases hb : c ≤ 90
    · rw [upB_t ha hb]
      go_enter Tryz.func203, Tryz.ntmps203
      go_wp2
      go_ret
      exact ⟨rfl, rfl⟩
    · rw [upB_f (by omega)]
      go_enter Tryz.func203, Tryz.ntmps203
      go_wp2
      go_ret
      exact ⟨rfl, rfl⟩
  · rw [upB_f (by omega)]
    go_enter Tryz.func203, Tryz.ntmps203
    go_wp2
    go_ret
    exact ⟨rfl, rfl⟩

set_option maxHeartbeats 400000 in
theorem needsEscape_any (c : Int) (w : World) (_h0 : 0 ≤ c) (_h1 : c ≤ 255) :
    Calls Tryz.prog 229 #[.int .u8 c] w fun e w' => e = .returned (.bool (escB c)) ∧ w' = w := by
  by_cases ha : c = 34
  · rw [escB_t (Or.inl ha)]
    have hb : (c == 34) = true := by simp [ha]
    clear ha
    go_enter Tryz.func229, Tryz.ntmps229
    go_wp2
    go_ret
    exact ⟨rfl, rfl⟩
  · have ha' : (c == 34) = false := by simp [ha]
    by_cases hb : c = 92
    · rw [escB_t (Or.inr hb)]
      have hb' : (c == 92) = true := by simp [hb]
      clear ha hb
      go_enter Tryz.func229, Tryz.ntmps229
      go_wp2
      go_ret
      exact ⟨rfl, rfl⟩
    · rw [escB_f (by omega)]
      have hb' : (c == 92) = false := by simp [hb]
      clear ha hb
      go_enter Tryz.func229, Tryz.ntmps229
      go_wp2
      go_ret
      exact ⟨rfl, rfl⟩

set_option maxHeartbeats 400000 in
theorem isString_any (s : ByteArray) (w : World) (hs : s.size ≤ maxLen) :
    Calls Tryz.prog 181 #[.string s] w fun e w' => e = .returned (.bool (strB s.data.toList)) ∧ w' = w := by
  unfold maxLen at hs
  by_cases hl : s.size ≤ 60
  · have hl2 : strB s.data.toList = s.data.toList.all strC := by
      have : s.data.toList.length = s.size := by simp
      simp [strB, this, hl]
    have H := hide hl2
    clear hl2
    have hd : decide (60 < (s.size : Int)) = false := by simp; omega
    go_enter Tryz.func181, Tryz.ntmps181
    go_wp2
    go_loop [3, 9] (fun _ i => ∃ k : Nat, k ≤ s.size ∧ i = .int .i64 k ∧ (s.data.toList.take k).all strC = true) (fun _ i => s.size - (intOf i).toNat)
    case atStart => exact ⟨0, Nat.zero_le _, rfl, rfl⟩
    case round =>
      obtain ⟨k, hk, rfl, hall⟩ := hrel
      have HA := hide hall
      clear hall
      by_cases hlt : k < s.size
      · by_cases h1 : 32 ≤ (s[k].toNat : Int)
        · have b1 : decide ((s[k].toNat : Int) < 32) = false := by simp; omega
          by_cases h2 : (s[k].toNat : Int) ≤ 126
          · have b2 : decide (126 < (s[k].toNat : Int)) = false := by simp; omega
            go_wp2
            go_round
            case rel =>
              refine ⟨k + 1, by omega, by go_num, ?_⟩
              rw [take_snoc s k hlt, List.all_append, unhide HA]
              simp [strC, h1, h2]
            case measure => simp [intOf]; omega
          · have b2 : decide (126 < (s[k].toNat : Int)) = true := by simp; omega
            go_wp2
            go_ret
            exact ⟨ret_bool (by rw [unhide H, all_take_get s k hlt (by simp [strC]; omega)]), rfl⟩
        · have b1 : decide ((s[k].toNat : Int) < 32) = true := by simp; omega
          go_wp2
          go_ret
          exact ⟨ret_bool (by rw [unhide H, all_take_get s k hlt (by simp [strC]; omega)]), rfl⟩
      · go_wp2
        go_ret
        exact ⟨ret_bool (by rw [unhide H, ← take_all s k (by omega), unhide HA]), rfl⟩
  · have hl2 : strB s.data.toList = false := by
      have : s.data.toList.length = s.size := by simp
      simp [strB, this, hl]
    rw [hl2]
    go_enter Tryz.func181, Tryz.ntmps181
    go_wp2
    go_ret
    exact ⟨rfl, rfl⟩

theorem isDigit_byte (c : UInt8) (w : World) : Calls Tryz.prog 204 #[.int .u8 c.toNat] w fun e w' => e = .returned (.bool (digB c.toNat)) ∧ w' = w :=
  isDigit_any _ w (by omega) (by have := c.toNat_lt; omega)
theorem isLower_byte (c : UInt8) (w : World) : Calls Tryz.prog 202 #[.int .u8 c.toNat] w fun e w' => e = .returned (.bool (lowB c.toNat)) ∧ w' = w :=
  isLower_any _ w (by omega) (by have := c.toNat_lt; omega)
theorem isUpper_byte (c : UInt8) (w : World) : Calls Tryz.prog 203 #[.int .u8 c.toNat] w fun e w' => e = .returned (.bool (upB c.toNat)) ∧ w' = w :=
  isUpper_any _ w (by omega) (by have := c.toNat_lt; omega)
theorem needsEscape_byte (c : UInt8) (w : World) : Calls Tryz.prog 229 #[.int .u8 c.toNat] w fun e w' => e = .returned (.bool (escB c.toNat)) ∧ w' = w :=
  needsEscape_any _ w (by omega) (by have := c.toNat_lt; omega)

theorem isEmpty_of (s : ByteArray) : s.toList.isEmpty = decide (s.size = 0) := by
  rw [show s.toList = s.data.toList from ByteArray.toList_eq s]
  have hl : s.data.toList.length = s.size := by simp
  cases h : s.data.toList with
  | nil => rw [h] at hl; simp at hl; simp [← hl]
  | cons a b => rw [h] at hl; simp at hl; simp [← hl]
set_option maxHeartbeats 1000000 in
theorem isSymbol_any (s : ByteArray) (w : World) (hs : s.size ≤ maxLen) :
    Calls Tryz.prog 180 #[.string s] w fun e w' => e = .returned (.bool (symB s.data.toList)) ∧ w' = w := by
  unfold maxLen at hs
  have hlen : s.data.toList.length = s.size := by simp
  by_cases hz : s.size = 0
  · have he : s = ⟨#[]⟩ := ByteArray.ext (Array.eq_empty_of_size_eq_zero hz)
    subst he
    go_enter Tryz.func180, Tryz.ntmps180
    go_wp2
    go_ret
    exact ⟨ret_bool rfl, rfl⟩
  · have hem : s.toList.isEmpty = false := by rw [isEmpty_of]; simp [hz]
    have h0 : 0 < s.size := by omega
    have hsym : symB s.data.toList = (decide (s.size ≤ 24) && (lowB s[0].toNat && s.data.toList.all innB)) := by
      have h00 : s.data.toList[0]? = some s[0] := by
        rw [List.getElem?_eq_getElem (by omega)]; rfl
      cases h : s.data.toList with
      | nil => rw [h] at hlen; simp at hlen; omega
      | cons a b =>
        rw [h] at hlen h00
        simp at hlen h00
        simp only [symB, h00, hlen]
    have HS := hide hsym
    clear hsym hlen
    by_cases hl : s.size ≤ 24
    · have hd : decide (24 < (s.size : Int)) = false := by simp; omega
      cases hlo : lowB s[0].toNat
      · have HL := hide hlo
        go_enter Tryz.func180, Tryz.ntmps180
        go_wp2_with (go_at_call 202; refine (isLower_byte _ _).mono ?_; rintro e w' ⟨rfl, rfl⟩)
        go_ret
        exact ⟨ret_bool (by rw [unhide HS, unhide HL]; simp), rfl⟩
      · have HL := hide hlo
        go_enter Tryz.func180, Tryz.ntmps180
        go_wp2_with (go_at_call 202; refine (isLower_byte _ _).mono ?_; rintro e w' ⟨rfl, rfl⟩)
        go_loop [3, 19] (fun _ i => ∃ k : Nat, k ≤ s.size ∧ i = .int .i64 k ∧ (s.data.toList.take k).all innB = true) (fun _ i => s.size - (intOf i).toNat)
        case atStart => exact ⟨0, Nat.zero_le _, rfl, rfl⟩
        case round =>
          obtain ⟨k, hk, rfl, hall⟩ := hrel
          have HA := hide hall
          clear hall hlo
          by_cases hlt : k < s.size
          · cases c1 : lowB s[k].toNat
            · cases c2 : upB s[k].toNat
              · cases c3 : digB s[k].toNat
                · by_cases c4 : (s[k].toNat : Int) = 95
                  · have b4 : ((s[k].toNat : Int) != 95) = false := by simp [c4]
                    have HI : Hid (innB s[k] = true) := by simp only [innB, c4]; rfl
                    clear c4
                    go_wp2_with (first | (go_at_call 202; refine (isLower_byte _ _).mono ?_; rintro e w' ⟨rfl, rfl⟩) | (go_at_call 203; refine (isUpper_byte _ _).mono ?_; rintro e w' ⟨rfl, rfl⟩) | (go_at_call 204; refine (isDigit_byte _ _).mono ?_; rintro e w' ⟨rfl, rfl⟩))
                    go_round
                    case rel => exact ⟨k + 1, by omega, by go_num, by rw [take_snoc s k hlt, List.all_append, unhide HA]; simp [unhide HI]⟩
                    case measure => simp [intOf]; omega
                  · have b4 : ((s[k].toNat : Int) != 95) = true := by simp [c4]
                    have HI : Hid (innB s[k] = false) := by simp only [innB, c1, c2, c3, beq_eq_false_iff_ne.2 c4]; rfl
                    go_wp2_with (first | (go_at_call 202; refine (isLower_byte _ _).mono ?_; rintro e w' ⟨rfl, rfl⟩) | (go_at_call 203; refine (isUpper_byte _ _).mono ?_; rintro e w' ⟨rfl, rfl⟩) | (go_at_call 204; refine (isDigit_byte _ _).mono ?_; rintro e w' ⟨rfl, rfl⟩))
                    go_ret
                    exact ⟨ret_bool (by rw [unhide HS, all_take_get s k hlt (unhide HI)]; simp), rfl⟩
                · have HI : Hid (innB s[k] = true) := by show innB s[k] = true; simp [innB, c3]
                  go_wp2_with (first | (go_at_call 202; refine (isLower_byte _ _).mono ?_; rintro e w' ⟨rfl, rfl⟩) | (go_at_call 203; refine (isUpper_byte _ _).mono ?_; rintro e w' ⟨rfl, rfl⟩) | (go_at_call 204; refine (isDigit_byte _ _).mono ?_; rintro e w' ⟨rfl, rfl⟩))
                  go_round
                  case rel => exact ⟨k + 1, by omega, by go_num, by rw [take_snoc s k hlt, List.all_append, unhide HA]; simp [unhide HI]⟩
                  case measure => simp [intOf]; omega
              · have HI : Hid (innB s[k] = true) := by show innB s[k] = true; simp [innB, c2]
                go_wp2_with (first | (go_at_call 202; refine (isLower_byte _ _).mono ?_; rintro e w' ⟨rfl, rfl⟩) | (go_at_call 203; refine (isUpper_byte _ _).mono ?_; rintro e w' ⟨rfl, rfl⟩) | (go_at_call 204; refine (isDigit_byte _ _).mono ?_; rintro e w' ⟨rfl, rfl⟩))
                go_round
                case rel => exact ⟨k + 1, by omega, by go_num, by rw [take_snoc s k hlt, List.all_append, unhide HA]; simp [unhide HI]⟩
                case measure => simp [intOf]; omega
            · have HI : Hid (innB s[k] = true) := by show innB s[k] = true; simp [innB, c1]
              go_wp2_with (first | (go_at_call 202; refine (isLower_byte _ _).mono ?_; rintro e w' ⟨rfl, rfl⟩) | (go_at_call 203; refine (isUpper_byte _ _).mono ?_; rintro e w' ⟨rfl, rfl⟩) | (go_at_call 204; refine (isDigit_byte _ _).mono ?_; rintro e w' ⟨rfl, rfl⟩))
              go_round
              case rel => exact ⟨k + 1, by omega, by go_num, by rw [take_snoc s k hlt, List.all_append, unhide HA]; simp [unhide HI]⟩
              case measure => simp [intOf]; omega
          · go_wp2
            go_ret
            exact ⟨ret_bool (by rw [unhide HS, ← take_all s k (by omega), unhide HA, unhide HL]; simp [hl]), rfl⟩
    · have hd : decide (24 < (s.size : Int)) = true := by simp; omega
      go_enter Tryz.func180, Tryz.ntmps180
      go_wp2
      go_ret
      exact ⟨ret_bool (by rw [unhide HS]; simp [hl]), rfl⟩

def chk (b : Bool) : Int := if b then 0 else 1

set_option maxHeartbeats 1000000 in
/-- val.Check: 0 of a right value, 1 of any other. -/
theorem check_any (k n : Int) (s : ByteArray) (w : World) (hs : s.size ≤ maxLen) :
    Calls Tryz.prog 144 #[.agg #[.int .i64 k, .int .i64 n, .string s]] w fun e w' => e = .returned (.int .i64 (chk (rightB k n s.data.toList))) ∧ Below w.heap.size w w' := by
  have hemp : s.data.toList.isEmpty = s.toList.isEmpty := by rw [ByteArray.toList_eq]
  by_cases k1 : k = 1
  · subst k1
    have hr : rightB 1 n s.data.toList = (s.toList.isEmpty && decide (-4611686018427387904 ≤ n ∧ n ≤ 4611686018427387904)) := by simp [rightB, hemp]
    rw [hr]
    clear hr hemp
    cases he : s.toList.isEmpty
    · go_enter Tryz.func144, Tryz.ntmps144
      go_wp2
      go_ret
      exact ⟨rfl, (Below.refl _ _).alloc (Nat.le_refl _) _⟩
    · by_cases ha : -4611686018427387904 ≤ n
      · by_cases hb : n ≤ 4611686018427387904
        · have e1 : decide (-4611686018427387904 ≤ n ∧ n ≤ 4611686018427387904) = true := decide_eq_true ⟨ha, hb⟩
          rw [e1]; clear e1
          have h1 : decide (-4611686018427387904 ≤ n) = true := decide_eq_true ha
          have h2 : decide (n ≤ 4611686018427387904) = true := decide_eq_true hb
          clear ha hb
          go_enter Tryz.func144, Tryz.ntmps144
          go_wp2
          go_ret
          exact ⟨rfl, (Below.refl _ _).alloc (Nat.le_refl _) _⟩
        · have e1 : decide (-4611686018427387904 ≤ n ∧ n ≤ 4611686018427387904) = false := decide_eq_false (fun h => hb h.2)
          rw [e1]; clear e1
          have h1 : decide (-4611686018427387904 ≤ n) = true := decide_eq_true ha
          have h2 : decide (n ≤ 4611686018427387904) = false := decide_eq_false hb
          clear ha hb
          go_enter Tryz.func144, Tryz.ntmps144
          go_wp2
          go_ret
          exact ⟨rfl, (Below.refl _ _).alloc (Nat.le_refl _) _⟩
      · have e1 : decide (-4611686018427387904 ≤ n ∧ n ≤ 4611686018427387904) = false := decide_eq_false (fun h => ha h.1)
        rw [e1]; clear e1
        have h1 : decide (-4611686018427387904 ≤ n) = false := decide_eq_false ha
        clear ha
        go_enter Tryz.func144, Tryz.ntmps144
        go_wp2
        go_ret
        exact ⟨rfl, (Below.refl _ _).alloc (Nat.le_refl _) _⟩
  · have b1 : (k == 1) = false := beq_eq_false_iff_ne.2 k1
    by_cases k2 : k = 2
    · subst k2
      have hr : rightB 2 n s.data.toList = ((n == 0) && symB s.data.toList) := by simp [rightB]
      rw [hr]
      clear hr hemp b1 k1
      cases hn : n == 0
      · go_enter Tryz.func144, Tryz.ntmps144
        go_wp2_with (go_at_call 180; refine (isSymbol_any _ _ hs).mono ?_; rintro e w' ⟨rfl, rfl⟩)
        go_ret
        exact ⟨rfl, (Below.refl _ _).alloc (Nat.le_refl _) _⟩
      · cases hy : symB s.data.toList
        · go_enter Tryz.func144, Tryz.ntmps144
          go_wp2_with (go_at_call 180; refine (isSymbol_any _ _ hs).mono ?_; rintro e w' ⟨rfl, rfl⟩)
          go_ret
          exact ⟨rfl, (Below.refl _ _).alloc (Nat.le_refl _) _⟩
        · go_enter Tryz.func144, Tryz.ntmps144
          go_wp2_with (go_at_call 180; refine (isSymbol_any _ _ hs).mono ?_; rintro e w' ⟨rfl, rfl⟩)
          go_ret
          exact ⟨rfl, (Below.refl _ _).alloc (Nat.le_refl _) _⟩
    · have b2 : (k == 2) = false := beq_eq_false_iff_ne.2 k2
      by_cases k3 : k = 3
      · subst k3
        have hr : rightB 3 n s.data.toList = ((n == 0) && strB s.data.toList) := by simp [rightB]
        rw [hr]
        clear hr hemp b1 k1 b2 k2
        cases hn : n == 0
        · go_enter Tryz.func144, Tryz.ntmps144
          go_wp2_with (go_at_call 181; refine (isString_any _ _ hs).mono ?_; rintro e w' ⟨rfl, rfl⟩)
          go_ret
          exact ⟨rfl, (Below.refl _ _).alloc (Nat.le_refl _) _⟩
        · cases hy : strB s.data.toList
          · go_enter Tryz.func144, Tryz.ntmps144
            go_wp2_with (go_at_call 181; refine (isString_any _ _ hs).mono ?_; rintro e w' ⟨rfl, rfl⟩)
            go_ret
            exact ⟨rfl, (Below.refl _ _).alloc (Nat.le_refl _) _⟩
          · go_enter Tryz.func144, Tryz.ntmps144
            go_wp2_with (go_at_call 181; refine (isString_any _ _ hs).mono ?_; rintro e w' ⟨rfl, rfl⟩)
            go_ret
            exact ⟨rfl, (Below.refl _ _).alloc (Nat.le_refl _) _⟩
      · have b3 : (k == 3) = false := beq_eq_false_iff_ne.2 k3
        have hr : rightB k n s.data.toList = false := by simp [rightB, k1, k2, k3]
        rw [hr]
        clear hr hemp k1 k2 k3
        go_enter Tryz.func144, Tryz.ntmps144
        go_wp2
        go_ret
        exact ⟨rfl, (Below.refl _ _).alloc (Nat.le_refl _) _⟩
end Go.Proofs.YtcjnhhbcleljmaaGreatDoor

/- What lex's scanners answer: blank, quoted, number, mark, sign. -/
import Derived.Test.YtaapeleoiclplaaDoorLexA
import Derived.Test.YtaapeleoiclplaaDoorLexV
namespace Go.Proofs.YtaapeleoiclplaaDoor
open Go.RowKit
open V

theorem list_cons (s : ByteArray) (h : 0 < s.size) : s.data.toList = s[0] :: (s.extract 1 s.size).data.toList := rest_of s h
theorem ext_size (s : ByteArray) (h : 0 < s.size) : (s.extract 1 s.size).size = s.size - 1 := by
  rw [ByteArray.size_extract]; omega

set_option maxHeartbeats 1000000 in
set_option maxRecDepth 100000 in
theorem blank_any (s : ByteArray) (w : World) (hs : s.size ≤ 20000) (h0 : 0 < s.size) :
    Calls Tryd.prog 14 #[.string s] w fun e w' => e = .returned (.int .i64 (blankN s.data.toList)) ∧ w' = w := by
  have hb := byte_eqI s[0] 37 (by decide)
  cases c : ((s[0].toNat : Int) == 37)
  · have HR : Hid (blankN s.data.toList = (s.data.toList.takeWhile blankB).length) := by
      show _ = _
      unfold blankN
      rw [if_neg]
      rw [list_cons s h0]
      show ¬ (s[0] == 37) = true
      rw [show (s[0] == 37) = _ from hb.symm]
      show ¬ (((s[0].toNat : Int) == 37) = true)
      rw [c]; simp
    clear hb
    go_enter Tryd.func14, Tryd.ntmps14
    go_wp2_with (go_at_call 24; refine (span26 _ _ hs).mono ?_; rintro e w' ⟨rfl, rfl⟩)
    go_ret
    exact ⟨by rw [unhide HR]; rfl, rfl⟩
  · have HR : Hid (blankN s.data.toList = (s.data.toList.takeWhile (· != 10)).length) := by
      show _ = _
      unfold blankN
      rw [if_pos]
      rw [list_cons s h0]
      show (s[0] == 37) = true
      rw [show (s[0] == 37) = _ from hb.symm]
      exact c
    clear hb
    go_enter Tryd.func14, Tryd.ntmps14
    go_wp2_with (go_at_call 24; refine (span25 _ _ hs).mono ?_; rintro e w' ⟨rfl, rfl⟩)
    go_ret
    exact ⟨by rw [unhide HR]; rfl, rfl⟩

theorem strN_q {c : UInt8} {r : List UInt8} (h : (c.toNat : Int) = 34) : strN (c :: r) = some 1 := by
  have : c = 34 := UInt8.toNat_inj.1 (by show c.toNat = 34; omega)
  rw [strN_cons, if_pos this]
theorem strN_esc {c d : UInt8} {r : List UInt8} (h : (c.toNat : Int) = 92) : strN (c :: d :: r) = (strN r).map (· + 2) := by
  have : c = 92 := UInt8.toNat_inj.1 (by show c.toNat = 92; omega)
  rw [strN_cons, if_neg (by rw [this]; decide), if_pos this]
theorem strN_last {c : UInt8} (h : (c.toNat : Int) = 92) : strN [c] = none := by
  have : c = 92 := UInt8.toNat_inj.1 (by show c.toNat = 92; omega)
  rw [strN_cons, if_neg (by rw [this]; decide), if_pos this]
theorem strN_plain {c : UInt8} {r : List UInt8} (h : ¬ (c.toNat : Int) = 34) (h' : ¬ (c.toNat : Int) = 92) : strN (c :: r) = (strN r).map (· + 1) := by
  rw [strN_cons, if_neg (by rintro rfl; exact h rfl), if_neg (by rintro rfl; exact h' rfl)]

set_option maxHeartbeats 2000000 in
set_option maxRecDepth 100000 in
theorem quotes_any (s : ByteArray) (w : World) (hs : s.size ≤ 20000) (h0 : 0 < s.size) :
    Calls Tryd.prog 30 #[.string s] w fun e w' => e = .returned (.int .i64 (strQ s.data.toList)) ∧ w' = w := by
  go_enter Tryd.func30, Tryd.ntmps30
  go_wp2
  go_loop [3] (fun i => ∃ k : Nat, 1 ≤ k ∧ k ≤ s.size + 1 ∧ i = .int .i64 k ∧ Hid (strN (s.data.toList.drop 1) = (strN (s.data.toList.drop k)).map (· + (k - 1)))) (fun i => s.size + 1 - (intOf i).toNat)
  case atStart => exact ⟨1, by omega, by omega, rfl, by show _ = _; simp⟩
  case round =>
    obtain ⟨k, hk1, hk, rfl, HS⟩ := hrel
    by_cases hlt : k < s.size
    · have lt1 : decide ((k : Int) < (s.size : Int)) = true := decide_eq_true (by omega)
      have hdc := drop_cons s k hlt
      by_cases c1 : (s[k].toNat : Int) = 34
      · have d1 : ((s[k].toNat : Int) == 34) = true := by simp [c1]
        have HR : Hid ((strQ s.data.toList : Int) = k + 1) := by
          show _ = _
          unfold strQ
          rw [unhide HS, hdc, strN_q c1]
          simp; omega
        clear c1 hdc
        go_wp2
        go_ret
        exact ⟨by rw [unhide HR]; rfl, rfl⟩
      · have d1 : ((s[k].toNat : Int) == 34) = false := by simp [c1]
        by_cases c2 : (s[k].toNat : Int) = 92
        · have d2 : ((s[k].toNat : Int) == 92) = true := by simp [c2]
          have HS' : Hid (strN (s.data.toList.drop 1) = (strN (s.data.toList.drop (k + 2))).map (· + (k + 2 - 1))) := by
            show _ = _
            by_cases hla : k + 1 < s.size
            · rw [unhide HS, hdc, drop_cons s (k + 1) hla, strN_esc c2, Option.map_map]
              congr 1
              funext x; simp; omega
            · rw [unhide HS, hdc, drop_end s (k + 1) (by omega), strN_last c2, drop_end s (k + 2) (by omega)]
              rfl
          clear c1 c2 hdc
          go_wp2
          go_round
          case rel => exact ⟨k + 2, by omega, by omega, by go_num, HS'⟩
          case measure => simp [intOf]; omega
        · have d2 : ((s[k].toNat : Int) == 92) = false := by simp [c2]
          have HS' : Hid (strN (s.data.toList.drop 1) = (strN (s.data.toList.drop (k + 1))).map (· + (k + 1 - 1))) := by
            show _ = _
            rw [unhide HS, hdc, strN_plain c1 c2, Option.map_map]
            congr 1
            funext x; simp; omega
          clear c1 c2 hdc
          go_wp2
          go_round
          case rel => exact ⟨k + 1, by omega, by omega, by go_num, HS'⟩
          case measure => simp [intOf]; omega
    · have lt1 : decide ((k : Int) < (s.size : Int)) = false := decide_eq_false (by omega)
      have HR : Hid ((strQ s.data.toList : Int) = 0) := by
        show _ = _
        unfold strQ
        rw [unhide HS, drop_end s k (by omega)]
        rfl
      go_wp2
      go_ret
      exact ⟨by rw [unhide HR]; rfl, rfl⟩

theorem digC_byte (c : UInt8) (w : World) : Calls Tryd.prog 47 #[.int .u8 c.toNat] w fun e w' => e = .returned (.bool (digC c)) ∧ w' = w := lexDigit_byte c w
theorem head_dig (r : List UInt8) : headB digC r = decide (0 < (r.takeWhile digC).length) := by
  cases r with
  | nil => rfl
  | cons d r =>
    show digC d = _
    rw [List.takeWhile_cons]
    cases h : digC d <;> simp

set_option maxHeartbeats 2000000 in
set_option maxRecDepth 100000 in
theorem lexNumber_any (s : ByteArray) (w : World) (hs : s.size ≤ 20000) (h0 : 0 < s.size) :
    Calls Tryd.prog 31 #[.string s] w fun e w' => e = .returned (.int .i64 (numN s.data.toList)) ∧ w' = w := by
  have hsz : (s.extract 1 s.size).size ≤ 20000 := by rw [ext_size s h0]; omega
  have i1 : (1 : Int) ≤ s.size := by omega
  have h45 := byte_eqI s[0] 45 (by decide)
  obtain ⟨m, hm⟩ : ∃ m, ((s.extract 1 s.size).data.toList.takeWhile digC).length = m := ⟨_, rfl⟩
  have hmb : m ≤ 20000 := by
    have := List.Sublist.length_le (List.takeWhile_sublist digC (l := (s.extract 1 s.size).data.toList))
    have h2 : (s.extract 1 s.size).data.toList.length = (s.extract 1 s.size).size := by simp
    omega
  have HN : Hid (numN s.data.toList = if (digC s[0] || (s[0] == 45 && decide (0 < m))) = true then 1 + m else 0) := by
    show _ = _
    rw [list_cons s h0, numN_cons, head_dig, hm]
  have HM := hide hm
  clear hm
  cases c1 : digC s[0]
  · cases c2 : ((s[0].toNat : Int) == 45)
    · have HR : Hid ((numN s.data.toList : Int) = 0) := by
        show _ = _
        rw [unhide HN, c1, show (s[0] == 45) = _ from h45.symm]
        show ((if ((false || (((s[0].toNat : Int) == 45) && decide (0 < m))) = true) then 1 + m else 0 : Nat) : Int) = 0
        rw [c2]; rfl
      clear h45
      go_enter Tryd.func31, Tryd.ntmps31
      go_wp2_with (first | (go_at_call 24; refine (span47 _ _ hsz).mono ?_; rintro e w' ⟨rfl, rfl⟩; rw [unhide HM]) | (go_at_call 47; refine (digC_byte _ _).mono ?_; rintro e w' ⟨rfl, rfl⟩))
      go_ret
      exact ⟨by rw [unhide HR]; rfl, rfl⟩
    · by_cases hm0 : 0 < m
      · have HR : Hid ((numN s.data.toList : Int) = 1 + m) := by
          show _ = _
          rw [unhide HN, c1, show (s[0] == 45) = _ from h45.symm]
          show ((if ((false || (((s[0].toNat : Int) == 45) && decide (0 < m))) = true) then 1 + m else 0 : Nat) : Int) = 1 + m
          rw [c2, decide_eq_true hm0]; simp
        have t1 : decide (0 < (m : Int)) = true := decide_eq_true (by omega)
        clear h45
        go_enter Tryd.func31, Tryd.ntmps31
        go_wp2_with (first | (go_at_call 24; refine (span47 _ _ hsz).mono ?_; rintro e w' ⟨rfl, rfl⟩; rw [unhide HM]) | (go_at_call 47; refine (digC_byte _ _).mono ?_; rintro e w' ⟨rfl, rfl⟩))
        go_ret
        exact ⟨by rw [unhide HR]; rfl, rfl⟩
      · have HR : Hid ((numN s.data.toList : Int) = 0) := by
          show _ = _
          rw [unhide HN, c1, decide_eq_false hm0]; simp
        have t1 : decide (0 < (m : Int)) = false := decide_eq_false (by omega)
        clear h45
        go_enter Tryd.func31, Tryd.ntmps31
        go_wp2_with (first | (go_at_call 24; refine (span47 _ _ hsz).mono ?_; rintro e w' ⟨rfl, rfl⟩; rw [unhide HM]) | (go_at_call 47; refine (digC_byte _ _).mono ?_; rintro e w' ⟨rfl, rfl⟩))
        go_ret
        exact ⟨by rw [unhide HR]; rfl, rfl⟩
  · have HR : Hid ((numN s.data.toList : Int) = 1 + m) := by
      show _ = _
      rw [unhide HN, c1]; simp
    clear h45
    go_enter Tryd.func31, Tryd.ntmps31
    go_wp2_with (first | (go_at_call 24; refine (span47 _ _ hsz).mono ?_; rintro e w' ⟨rfl, rfl⟩; rw [unhide HM]) | (go_at_call 47; refine (digC_byte _ _).mono ?_; rintro e w' ⟨rfl, rfl⟩))
    go_ret
    exact ⟨by rw [unhide HR]; rfl, rfl⟩
end Go.Proofs.YtaapeleoiclplaaDoor

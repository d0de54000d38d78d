/- What lex's scanners answer: mark, sign. -/
import Derived.Test.YtaapeleoiclplaaDoorLexB
namespace Go.Proofs.YtaapeleoiclplaaDoor
open Go.RowKit
open V

namespace V
theorem pre_cons (c : UInt8) (r : List UInt8) (a b : UInt8) : Lib.hasPrefix (c :: r) [a, b] = (a == c && headB (· == b) r) := by
  cases r with
  | nil => simp [Lib.hasPrefix, headB, List.isPrefixOf]
  | cons d r => simp [Lib.hasPrefix, headB, List.isPrefixOf, Bool.beq_comm]
theorem two_head (c : UInt8) (r : List UInt8) : headB (twoB c) r = (Lib.hasPrefix (c :: r) [33, 61] || Lib.hasPrefix (c :: r) [60, 61] || Lib.hasPrefix (c :: r) [45, 62] || Lib.hasPrefix (c :: r) [61, 62]) := by
  simp only [pre_cons]
  cases r with
  | nil => simp [headB]
  | cons d r =>
    simp only [headB, twoB]
    rw [Bool.beq_comm (a := (33 : UInt8)), Bool.beq_comm (a := (60 : UInt8)), Bool.beq_comm (a := (45 : UInt8)), Bool.beq_comm (a := (61 : UInt8)) (b := c)]
theorem index_of (l : List UInt8) (c : UInt8) : (0 ≤ Lib.indexByte l c) ↔ l.contains c = true := by
  induction l with
  | nil => simp [Lib.indexByte]
  | cons a l ih =>
    have hge := Lib.indexByte_ge l c
    rw [Lib.indexByte]
    by_cases h : (a == c) = true
    · rw [if_pos h]
      have : a = c := by simpa using h
      subst this
      simp
    · rw [if_neg h]
      have h' : ¬ c = a := by intro e; subst e; simp at h
      rw [show (a :: l).contains c = l.contains c by simp [h'], ← ih]
      by_cases h2 : (Lib.indexByte l c == -1) = true
      · rw [if_pos h2]
        have : Lib.indexByte l c = -1 := by simpa using h2
        omega
      · rw [if_neg h2]
        have : ¬ Lib.indexByte l c = -1 := by simpa using h2
        omega
end V

theorem pre_any (s p : ByteArray) (b : Bool) (w : World) (H : Hid (Lib.hasPrefix s.data.toList p.data.toList = b)) :
    Calls Tryd.prog 48 #[.string s, .string p] w fun e w' => e = .returned (.bool b) ∧ w' = w := by
  rw [← unhide H]; exact Tryd.strings_HasPrefix s p w
theorem idx_any (c : UInt8) (i : Int) (w : World) (H : Hid (Lib.indexByte [40, 41, 91, 93, 44, 46, 58, 47, 43, 42, 45, 61, 60] c = i)) :
    Calls Tryd.prog 49 #[.string ⟨#[40, 41, 91, 93, 44, 46, 58, 47, 43, 42, 45, 61, 60]⟩, .int .u8 c.toNat] w fun e w' => e = .returned (.int .i64 i) ∧ w' = w := by
  refine (Tryd.strings_IndexByte _ _ w).mono ?_
  rintro e w' ⟨rfl, rfl⟩
  rw [← unhide H]
  refine ⟨?_, rfl⟩
  have : (((c.toNat : Int)).toNat.toUInt8) = c := by simp
  rw [this]

theorem pair0 (w : World) : (Instr.index 71 (Value.agg #[Value.string ⟨#[33, 61]⟩, Value.string ⟨#[60, 61]⟩, Value.string ⟨#[45, 62]⟩, Value.string ⟨#[61, 62]⟩]) (.int .i64 0)).run Tryd.prog w = .ok (Value.string ⟨#[33, 61]⟩) w := by kernel_rfl
theorem pair1 (w : World) : (Instr.index 71 (Value.agg #[Value.string ⟨#[33, 61]⟩, Value.string ⟨#[60, 61]⟩, Value.string ⟨#[45, 62]⟩, Value.string ⟨#[61, 62]⟩]) (.int .i64 1)).run Tryd.prog w = .ok (Value.string ⟨#[60, 61]⟩) w := by kernel_rfl
theorem pair2 (w : World) : (Instr.index 71 (Value.agg #[Value.string ⟨#[33, 61]⟩, Value.string ⟨#[60, 61]⟩, Value.string ⟨#[45, 62]⟩, Value.string ⟨#[61, 62]⟩]) (.int .i64 2)).run Tryd.prog w = .ok (Value.string ⟨#[45, 62]⟩) w := by kernel_rfl
theorem pair3 (w : World) : (Instr.index 71 (Value.agg #[Value.string ⟨#[33, 61]⟩, Value.string ⟨#[60, 61]⟩, Value.string ⟨#[45, 62]⟩, Value.string ⟨#[61, 62]⟩]) (.int .i64 3)).run Tryd.prog w = .ok (Value.string ⟨#[61, 62]⟩) w := by kernel_rfl
set_option maxHeartbeats 2000000 in
set_option maxRecDepth 100000 in
theorem mark_any (s : ByteArray) (w : World) (_hs : s.size ≤ 20000) (h0 : 0 < s.size) :
    Calls Tryd.prog 32 #[.string s] w fun e w' => e = .returned (.int .i64 (markN s.data.toList)) ∧ w' = w := by
  obtain ⟨b0, H0⟩ : ∃ b0, Hid (Lib.hasPrefix s.data.toList (⟨#[33, 61]⟩ : ByteArray).data.toList = b0) := ⟨_, hide rfl⟩
  obtain ⟨b1, H1⟩ : ∃ b0, Hid (Lib.hasPrefix s.data.toList (⟨#[60, 61]⟩ : ByteArray).data.toList = b0) := ⟨_, hide rfl⟩
  obtain ⟨b2, H2⟩ : ∃ b0, Hid (Lib.hasPrefix s.data.toList (⟨#[45, 62]⟩ : ByteArray).data.toList = b0) := ⟨_, hide rfl⟩
  obtain ⟨b3, H3⟩ : ∃ b0, Hid (Lib.hasPrefix s.data.toList (⟨#[61, 62]⟩ : ByteArray).data.toList = b0) := ⟨_, hide rfl⟩
  obtain ⟨i, HI⟩ : ∃ i, Hid (Lib.indexByte [40, 41, 91, 93, 44, 46, 58, 47, 43, 42, 45, 61, 60] s[0] = i) := ⟨_, hide rfl⟩
  have hi0 : -1 ≤ i := by rw [← unhide HI]; exact Lib.indexByte_ge _ _
  have HM : Hid ((markN s.data.toList : Int) = if (b0 || b1 || b2 || b3) = true then 2 else if 0 ≤ i then 1 else 0) := by
    show _ = _
    rw [← unhide H0, ← unhide H1, ← unhide H2, ← unhide H3, ← unhide HI]
    rw [list_cons s h0, markN_cons, two_head]
    by_cases hh : (Lib.hasPrefix (s[0] :: (s.extract 1 s.size).data.toList) [33, 61] || Lib.hasPrefix (s[0] :: (s.extract 1 s.size).data.toList) [60, 61] || Lib.hasPrefix (s[0] :: (s.extract 1 s.size).data.toList) [45, 62] || Lib.hasPrefix (s[0] :: (s.extract 1 s.size).data.toList) [61, 62]) = true
    · rw [if_pos hh, if_pos hh]; rfl
    · rw [if_neg hh, if_neg hh]
      by_cases hc : singB s[0] = true
      · rw [if_pos hc, if_pos ((index_of _ _).2 hc)]; rfl
      · rw [if_neg hc, if_neg (fun h => hc ((index_of _ _).1 h))]; rfl
  go_enter Tryd.func32, Tryd.ntmps32
  go_wp2
  go_loop [6] (fun c => ∃ k : Nat, k ≤ 4 ∧ c = .int .i64 k ∧ Hid ((1 ≤ k → b0 = false) ∧ (2 ≤ k → b1 = false) ∧ (3 ≤ k → b2 = false) ∧ (4 ≤ k → b3 = false))) (fun c => 4 - (intOf c).toNat)
  case atStart => exact ⟨0, by omega, rfl, hide ⟨by omega, by omega, by omega, by omega⟩⟩
  case round =>
    obtain ⟨k, hk, rfl, HB⟩ := hrel
    rcases (show k = 0 ∨ k = 1 ∨ k = 2 ∨ k = 3 ∨ k = 4 by omega) with rfl | rfl | rfl | rfl | rfl
    · clear H1 H2 H3
      cases b0
      · go_wp2_with fail
        rw [pair0]
        simp only [Result.andThen]
        rw [Oper.upon_value]
        go_wp2_with (go_at_call 48; refine (pre_any _ _ _ _ H0).mono ?_; rintro e w' ⟨rfl, rfl⟩)
        go_round
        case rel => exact ⟨1, by omega, by go_num, hide ⟨by simp, by omega, by omega, by omega⟩⟩
        case measure => simp [intOf]
      · go_wp2_with fail
        rw [pair0]
        simp only [Result.andThen]
        rw [Oper.upon_value]
        go_wp2_with (go_at_call 48; refine (pre_any _ _ _ _ H0).mono ?_; rintro e w' ⟨rfl, rfl⟩)
        go_ret
        exact ⟨by rw [unhide HM]; rfl, rfl⟩
    · obtain ⟨x0, -, -, -⟩ := unhide HB
      have x0 := x0 (by omega)
      subst x0
      clear H0 H2 H3
      cases b1
      · go_wp2_with fail
        rw [pair1]
        simp only [Result.andThen]
        rw [Oper.upon_value]
        go_wp2_with (go_at_call 48; refine (pre_any _ _ _ _ H1).mono ?_; rintro e w' ⟨rfl, rfl⟩)
        go_round
        case rel => exact ⟨2, by omega, by go_num, hide ⟨by simp, by simp, by omega, by omega⟩⟩
        case measure => simp [intOf]
      · go_wp2_with fail
        rw [pair1]
        simp only [Result.andThen]
        rw [Oper.upon_value]
        go_wp2_with (go_at_call 48; refine (pre_any _ _ _ _ H1).mono ?_; rintro e w' ⟨rfl, rfl⟩)
        go_ret
        exact ⟨by rw [unhide HM]; rfl, rfl⟩
    · obtain ⟨x0, x1, -, -⟩ := unhide HB
      have x0 := x0 (by omega)
      have x1 := x1 (by omega)
      subst x0 x1
      clear H0 H1 H3
      cases b2
      · go_wp2_with fail
        rw [pair2]
        simp only [Result.andThen]
        rw [Oper.upon_value]
        go_wp2_with (go_at_call 48; refine (pre_any _ _ _ _ H2).mono ?_; rintro e w' ⟨rfl, rfl⟩)
        go_round
        case rel => exact ⟨3, by omega, by go_num, hide ⟨by simp, by simp, by simp, by omega⟩⟩
        case measure => simp [intOf]
      · go_wp2_with fail
        rw [pair2]
        simp only [Result.andThen]
        rw [Oper.upon_value]
        go_wp2_with (go_at_call 48; refine (pre_any _ _ _ _ H2).mono ?_; rintro e w' ⟨rfl, rfl⟩)
        go_ret
        exact ⟨by rw [unhide HM]; rfl, rfl⟩
    · obtain ⟨x0, x1, x2, -⟩ := unhide HB
      have x0 := x0 (by omega)
      have x1 := x1 (by omega)
      have x2 := x2 (by omega)
      subst x0 x1 x2
      clear H0 H1 H2
      cases b3
      · go_wp2_with fail
        rw [pair3]
        simp only [Result.andThen]
        rw [Oper.upon_value]
        go_wp2_with (go_at_call 48; refine (pre_any _ _ _ _ H3).mono ?_; rintro e w' ⟨rfl, rfl⟩)
        go_round
        case rel => exact ⟨4, by omega, by go_num, hide ⟨by simp, by simp, by simp, by simp⟩⟩
        case measure => simp [intOf]
      · go_wp2_with fail
        rw [pair3]
        simp only [Result.andThen]
        rw [Oper.upon_value]
        go_wp2_with (go_at_call 48; refine (pre_any _ _ _ _ H3).mono ?_; rintro e w' ⟨rfl, rfl⟩)
        go_ret
        exact ⟨by rw [unhide HM]; rfl, rfl⟩
    · obtain ⟨x0, x1, x2, x3⟩ := unhide HB
      have x0 := x0 (by omega)
      have x1 := x1 (by omega)
      have x2 := x2 (by omega)
      have x3 := x3 (by omega)
      subst x0 x1 x2 x3
      clear H0 H1 H2 H3
      by_cases hi : 0 ≤ i
      · have t1 : decide (0 ≤ i) = true := decide_eq_true hi
        have HR : Hid ((markN s.data.toList : Int) = 1) := by
          show _ = _
          rw [unhide HM, if_neg (by decide), if_pos hi]
        clear HM hi
        go_wp2_with (go_at_call 49; refine (idx_any _ _ _ HI).mono ?_; rintro e w' ⟨rfl, rfl⟩)
        go_ret
        exact ⟨by rw [unhide HR]; rfl, rfl⟩
      · have t1 : decide (0 ≤ i) = false := decide_eq_false hi
        have HR : Hid ((markN s.data.toList : Int) = 0) := by
          show _ = _
          rw [unhide HM, if_neg (by decide), if_neg hi]
        clear HM hi
        go_wp2_with (go_at_call 49; refine (idx_any _ _ _ HI).mono ?_; rintro e w' ⟨rfl, rfl⟩)
        go_ret
        exact ⟨by rw [unhide HR]; rfl, rfl⟩

theorem ret_two {a b c d : Int} (h : a = c) (h' : b = d) : Ending.returned (.tuple #[.int .i64 a, .int .i64 b]) = .returned (.tuple #[.int .i64 c, .int .i64 d]) := by rw [h, h']
set_option maxHeartbeats 2000000 in
set_option maxRecDepth 100000 in
theorem sign_any (s : ByteArray) (w : World) (hs : s.size ≤ 20000) (h0 : 0 < s.size) :
    Calls Tryd.prog 15 #[.string s] w fun e w' => e = .returned (.tuple #[.int .i64 (signP s.data.toList).1, .int .i64 (signP s.data.toList).2]) ∧ w' = w := by
  have HC := hide (signP_cons s[0] (s.extract 1 s.size).data.toList)
  rw [← list_cons s h0] at HC
  have h34 := byte_eqI s[0] 34 (by decide)
  cases c1 : lowB s[0].toNat
  · cases c2 : upB s[0].toNat
    · cases c3 : ((s[0].toNat : Int) == 34)
      · have hne : ¬ s[0] = 34 := by
          intro e
          rw [e] at c3
          exact absurd c3 (by decide)
        by_cases hn : 0 < numN s.data.toList
        · have HR : Hid (signP s.data.toList = (3, numN s.data.toList)) := by
            show _ = _
            rw [unhide HC, c1, c2, if_neg (by decide), if_neg (by decide), if_neg hne, if_pos hn]
          have t1 : decide (0 < (numN s.data.toList : Int)) = true := decide_eq_true (by omega)
          clear h34 hne
          go_enter Tryd.func15, Tryd.ntmps15
          go_wp2_with (first | (go_at_call 27; refine (lexLower_byte _ _).mono ?_; rintro e w' ⟨rfl, rfl⟩) | (go_at_call 29; refine (lexUpper_byte _ _).mono ?_; rintro e w' ⟨rfl, rfl⟩) | (go_at_call 31; refine (lexNumber_any _ _ hs h0).mono ?_; rintro e w' ⟨rfl, rfl⟩))
          go_ret2
          exact ⟨ret_two (by rw [unhide HR]) (by rw [unhide HR]), rfl⟩
        · have HR : Hid (signP s.data.toList = (5, markN s.data.toList)) := by
            show _ = _
            rw [unhide HC, c1, c2, if_neg (by decide), if_neg (by decide), if_neg hne, if_neg hn]
          have t1 : decide (0 < (numN s.data.toList : Int)) = false := decide_eq_false (by omega)
          clear h34 hne
          go_enter Tryd.func15, Tryd.ntmps15
          go_wp2_with (first | (go_at_call 27; refine (lexLower_byte _ _).mono ?_; rintro e w' ⟨rfl, rfl⟩) | (go_at_call 29; refine (lexUpper_byte _ _).mono ?_; rintro e w' ⟨rfl, rfl⟩) | (go_at_call 31; refine (lexNumber_any _ _ hs h0).mono ?_; rintro e w' ⟨rfl, rfl⟩) | (go_at_call 32; refine (mark_any _ _ hs h0).mono ?_; rintro e w' ⟨rfl, rfl⟩))
          go_ret2
          exact ⟨ret_two (by rw [unhide HR]) (by rw [unhide HR]), rfl⟩
      · have he : s[0] = 34 := by
          have : s[0].toNat = 34 := by have := (beq_iff_eq.1 c3); omega
          exact UInt8.toNat_inj.1 this
        have HR : Hid (signP s.data.toList = (4, strQ s.data.toList)) := by
          show _ = _
          rw [unhide HC, c1, c2, if_neg (by decide), if_neg (by decide), if_pos he]
        clear h34 he
        go_enter Tryd.func15, Tryd.ntmps15
        go_wp2_with (first | (go_at_call 27; refine (lexLower_byte _ _).mono ?_; rintro e w' ⟨rfl, rfl⟩) | (go_at_call 29; refine (lexUpper_byte _ _).mono ?_; rintro e w' ⟨rfl, rfl⟩) | (go_at_call 30; refine (quotes_any _ _ hs h0).mono ?_; rintro e w' ⟨rfl, rfl⟩))
        go_ret2
        exact ⟨ret_two (by rw [unhide HR]) (by rw [unhide HR]), rfl⟩
    · have HR : Hid (signP s.data.toList = (2, (s.data.toList.takeWhile innB).length)) := by
        show _ = _
        rw [unhide HC, c1, c2, if_neg (by decide), if_pos rfl]
      clear h34
      go_enter Tryd.func15, Tryd.ntmps15
      go_wp2_with (first | (go_at_call 27; refine (lexLower_byte _ _).mono ?_; rintro e w' ⟨rfl, rfl⟩) | (go_at_call 29; refine (lexUpper_byte _ _).mono ?_; rintro e w' ⟨rfl, rfl⟩) | (go_at_call 24; refine (span28 _ _ hs).mono ?_; rintro e w' ⟨rfl, rfl⟩))
      go_ret2
      exact ⟨ret_two (by rw [unhide HR]) (by rw [unhide HR]), rfl⟩
  · have HR : Hid (signP s.data.toList = (1, (s.data.toList.takeWhile innB).length)) := by
      show _ = _
      rw [unhide HC, c1, if_pos rfl]
    clear h34
    go_enter Tryd.func15, Tryd.ntmps15
    go_wp2_with (first | (go_at_call 27; refine (lexLower_byte _ _).mono ?_; rintro e w' ⟨rfl, rfl⟩) | (go_at_call 24; refine (span28 _ _ hs).mono ?_; rintro e w' ⟨rfl, rfl⟩))
    go_ret2
    exact ⟨ret_two (by rw [unhide HR]) (by rw [unhide HR]), rfl⟩
end Go.Proofs.YtaapeleoiclplaaDoor

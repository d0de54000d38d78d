/- Joined: LexV OwnU OwnV LexA LexB LexC. -/
import Derived.Test.YtcjnhhbcleljmaaGreatDoorLexZe
import Derived.Test.YtcjnhhbcleljmaaGreatDoorBasB
import Derived.Test.YtcjnhhbcleljmaaGreatDoorOwnD
namespace Go.Proofs.YtcjnhhbcleljmaaGreatDoor.V

/-- How many bytes a run of blanks, or a comment, has at the beginning. -/
def blankN (l : List UInt8) : Nat := if headB (· == 37) l = true then (l.takeWhile (· != 10)).length else (l.takeWhile blankB).length
/-- Up to the quote that closes: 0, if none does. -/
def strQ (l : List UInt8) : Nat := match strN (l.drop 1) with
  | some n => n + 1
  | none => 0
def numN : List UInt8 → Nat
  | [] => 0
  | c :: r => if digC c || (c == 45 && headB digC r) then 1 + (r.takeWhile digC).length else 0
def markN : List UInt8 → Nat
  | [] => 0
  | c :: r => if headB (twoB c) r then 2 else if singB c then 1 else 0
def signP : List UInt8 → Int × Nat
  | [] => (5, 0)
  | c :: r => if lowB c.toNat then (1, ((c :: r).takeWhile innB).length) else if upB c.toNat then (2, ((c :: r).takeWhile innB).length)
    else if c = 34 then (4, strQ (c :: r)) else if 0 < numN (c :: r) then (3, numN (c :: r)) else (5, markN (c :: r))

theorem numN_cons (c : UInt8) (r : List UInt8) : numN (c :: r) = if digC c || (c == 45 && headB digC r) then 1 + (r.takeWhile digC).length else 0 := rfl
theorem markN_cons (c : UInt8) (r : List UInt8) : markN (c :: r) = if headB (twoB c) r then 2 else if singB c then 1 else 0 := rfl
theorem signP_cons (c : UInt8) (r : List UInt8) : signP (c :: r) = if lowB c.toNat then (1, ((c :: r).takeWhile innB).length) else if upB c.toNat then (2, ((c :: r).takeWhile innB).length)
    else if c = 34 then (4, strQ (c :: r)) else if 0 < numN (c :: r) then (3, numN (c :: r)) else (5, markN (c :: r)) := rfl
theorem inn_low {c : UInt8} (h : lowB c.toNat = true) : innB c = true := by simp [innB, h]
theorem inn_up {c : UInt8} (h : upB c.toNat = true) : innB c = true := by simp [innB, h]
theorem not_digC_34 : digC 34 = false := rfl
theorem signP_some {l : List UInt8} {k : Int} {n : Nat} (h : signL l = some (k, n)) : signP l = (k, n) := by
  cases l with
  | nil => cases h
  | cons c r =>
    rw [signL_cons] at h
    rw [signP_cons]
    by_cases h1 : lowB c.toNat = true
    · have h1' : letB c = true := by simp [letB, h1]
      rw [if_pos h1'] at h
      rw [if_pos h1, List.takeWhile_cons, if_pos (inn_low h1), ← Option.some.inj h, if_pos h1, List.length_cons, Nat.add_comm]
    rw [if_neg h1]
    by_cases h2 : upB c.toNat = true
    · have h2' : letB c = true := by simp [letB, h2]
      rw [if_pos h2'] at h
      rw [if_pos h2, List.takeWhile_cons, if_pos (inn_up h2), ← Option.some.inj h, if_neg h1, List.length_cons, Nat.add_comm]
    rw [if_neg h2]
    have hl : ¬ letB c = true := by simp [letB, h1, h2]
    rw [if_neg hl] at h
    by_cases h3 : c = 34
    · subst h3
      rw [if_neg (show ¬ ((digC 34 || ((34 : UInt8) == 45 && headB digC r)) = true) by rw [not_digC_34, show ((34 : UInt8) == 45) = false from rfl]; simp), if_pos rfl] at h
      rw [if_pos rfl]
      simp only [Option.map_eq_some_iff] at h
      obtain ⟨m, hm, e⟩ := h
      have : strQ (34 :: r) = m + 1 := by unfold strQ; rw [List.drop_succ_cons, List.drop_zero, hm]
      rw [this, ← e]
    rw [if_neg h3]
    by_cases h4 : (digC c || (c == 45 && headB digC r)) = true
    · rw [if_pos h4] at h
      have : numN (c :: r) = 1 + (r.takeWhile digC).length := by rw [numN_cons]; rw [if_pos h4]
      rw [this, if_pos (by omega), ← Option.some.inj h]
    rw [if_neg h4, if_neg h3] at h
    have : numN (c :: r) = 0 := by rw [numN_cons]; rw [if_neg h4]
    rw [this, if_neg (by omega)]
    rw [markN_cons]
    by_cases h5 : headB (twoB c) r = true
    · rw [if_pos h5] at h ⊢
      rw [← Option.some.inj h]
    rw [if_neg h5] at h ⊢
    by_cases h6 : singB c = true
    · rw [if_pos h6] at h ⊢
      rw [← Option.some.inj h]
    · rw [if_neg h6] at h; cases h
theorem signP_none {l : List UInt8} (h : signL l = none) : signP l = (4, 0) ∨ signP l = (5, 0) := by
  cases l with
  | nil => exact Or.inr rfl
  | cons c r =>
    rw [signL_cons] at h
    by_cases h0 : letB c = true
    · rw [if_pos h0] at h; cases h
    rw [if_neg h0] at h
    have h1 : ¬ lowB c.toNat = true := by
      intro e; exact h0 (by simp [letB, e])
    have h2 : ¬ upB c.toNat = true := by
      intro e; exact h0 (by simp [letB, e])
    rw [signP_cons]
    rw [if_neg h1, if_neg h2]
    by_cases h4 : (digC c || (c == 45 && headB digC r)) = true
    · rw [if_pos h4] at h; cases h
    rw [if_neg h4] at h
    by_cases h3 : c = 34
    · rw [if_pos h3] at h ⊢
      have hm : strN r = none := by simpa using h
      have : strQ (c :: r) = 0 := by unfold strQ; rw [List.drop_succ_cons, List.drop_zero, hm]
      rw [this]; exact Or.inl rfl
    rw [if_neg h3] at h ⊢
    have : numN (c :: r) = 0 := by rw [numN_cons]; rw [if_neg h4]
    rw [this, if_neg (by omega)]
    rw [markN_cons]
    by_cases h5 : headB (twoB c) r = true
    · rw [if_pos h5] at h; cases h
    rw [if_neg h5] at h ⊢
    by_cases h6 : singB c = true
    · rw [if_pos h6] at h; cases h
    · rw [if_neg h6]; exact Or.inr rfl

/-- What the program asks of a sign. -/
def okK (k : Int) (x : List UInt8) : Bool :=
  if k = 1 then symB x else if k = 2 then varB x else if k = 3 then atoiB x else if k = 4 then (parseL x).isSome else !x.isEmpty
/-- The program's test says what the page's says. -/
theorem okK_some {l : List UInt8} {k : Int} {n : Nat} (h : signL l = some (k, n)) : okK k (l.take n) = rightK k (l.take n) := by
  cases l with
  | nil => cases h
  | cons c r =>
    have hn := signL_pos h
    have hl := signL_le h
    rw [signL_cons] at h
    by_cases h1 : letB c = true
    · rw [if_pos h1] at h
      have := (Prod.mk.inj (Option.some.inj h)).1
      rw [← this]
      split <;> rfl
    rw [if_neg h1] at h
    by_cases h2 : (digC c || (c == 45 && headB digC r)) = true
    · rw [if_pos h2] at h
      obtain ⟨e1, e2⟩ := Prod.mk.inj (Option.some.inj h)
      rw [← e1, ← e2]
      exact num_same (numeral_of h2)
    rw [if_neg h2] at h
    by_cases h3 : c = 34
    · rw [if_pos h3] at h
      simp only [Option.map_eq_some_iff] at h
      obtain ⟨m, hm, e⟩ := h
      obtain ⟨e1, e2⟩ := Prod.mk.inj e
      rw [← e1, ← e2, h3, List.take_succ_cons]
      exact quo_same _
    rw [if_neg h3] at h
    have hk : k = 5 := by
      by_cases h4 : headB (twoB c) r = true
      · rw [if_pos h4] at h; exact (Prod.mk.inj (Option.some.inj h)).1.symm
      rw [if_neg h4] at h
      by_cases h5 : singB c = true
      · rw [if_pos h5] at h; exact (Prod.mk.inj (Option.some.inj h)).1.symm
      · rw [if_neg h5] at h; cases h
    subst hk
    rw [rightK5]
    cases n with
    | zero => omega
    | succ n => rfl
theorem okK_none {k : Int} (h : k = 4 ∨ k = 5) : okK k [] = false := by
  rcases h with rfl | rfl <;> rfl
end Go.Proofs.YtcjnhhbcleljmaaGreatDoor.V
namespace Go.Proofs.YtcjnhhbcleljmaaGreatDoor
open Go.RowKit
open V

/-- What Number may answer. -/
def NumRes (l : List UInt8) (e : Ending) : Prop := ∃ x b, e = .returned (.tuple #[.int .i64 x, .bool b]) ∧ (b = true → numGo l = some x) ∧ (b = false → numGo l = none)

set_option maxHeartbeats 2000000 in
set_option maxRecDepth 20000 in
theorem number_loop (s : ByteArray) (w : World) (hs : s.size ≤ 20000) (h0 : 0 < s.size) (h45 : ((s[0].toNat : Int) == 45) = false)
    (HG : Hid (numGo s.data.toList = numRest false s.data.toList)) :
    Calls Tryz.prog 110 #[.string s] w fun e w' => NumRes s.data.toList e ∧ w' = w := by
  have t1 : decide (0 < (s.size : Int)) = true := decide_eq_true (by omega)
  have t2 : ((s.size : Int) == 0) = false := by rw [beq_eq_false_iff_ne]; omega
  go_enter Tryz.func110, Tryz.ntmps110
  go_wp2
  go_loop [5, 6, 7, 8] (fun n o i _ => ∃ (k : Nat) (a : Int) (b : Bool), k ≤ s.size ∧ n = .int .i64 a ∧ o = .bool b ∧ i = .int .i64 k ∧ 0 ≤ a ∧ a ≤ 4611686018427387904 ∧ Hid (numFold (s.data.toList.take k) = (a, b)) ∧ Hid ((s.data.toList.take k).all isD = true)) (fun _ _ i _ => s.size - (intOf i).toNat)
  case atStart => exact ⟨0, 0, false, by omega, rfl, rfl, rfl, by omega, by omega, by rfl, by rfl⟩
  case round =>
    obtain ⟨k, a, b, hk, rfl, rfl, rfl, ha0, ha1, HF, HA⟩ := hrel
    by_cases hlt : k < s.size
    · cases hd : digB s[k].toNat
      · have HR : Hid (numGo s.data.toList = none) := by
          show _ = _
          rw [unhide HG]
          unfold numRest
          have : s.data.toList.all isD = false := all_take_get s k hlt hd
          rw [this]; simp
        go_wp2_with (go_at_call 163; refine (refDigit_byte _ _).mono ?_; rintro e w' ⟨rfl, hw⟩; subst hw)
        go_ret2
        exact ⟨⟨0, false, rfl, fun h => (by cases h), fun _ => unhide HR⟩, rfl⟩
      · have hdd : 48 ≤ (s[k].toNat : Int) ∧ (s[k].toNat : Int) ≤ 57 := by simpa [digB] using hd
        obtain ⟨d0, d1⟩ := hdd
        have HA' : Hid ((s.data.toList.take (k + 1)).all isD = true) := by
          show _ = _
          rw [take_snoc s k hlt, List.all_append, unhide HA]; simp [isD, hd]
        cases b
        · by_cases ho : (4611686018427387904 - ((s[k].toNat : Int) - 48)) / 10 < a
          · have o1 : decide ((4611686018427387904 - ((s[k].toNat : Int) - 48)) / 10 < a) = true := decide_eq_true ho
            have HF' : Hid (numFold (s.data.toList.take (k + 1)) = (a, true)) := by
              show _ = _
              rw [take_snoc s k hlt, numFold_snoc, unhide HF]
              simp only [numStep]
              rw [if_pos (Or.inr ho)]
            clear ho
            go_wp2_with (go_at_call 163; refine (refDigit_byte _ _).mono ?_; rintro e w' ⟨rfl, hw⟩; subst hw)
            exact ⟨⟨k + 1, a, true, by omega, rfl, rfl, by go_num, ha0, ha1, HF', HA'⟩, by simp [intOf]; omega⟩
          · have o1 : decide ((4611686018427387904 - ((s[k].toNat : Int) - 48)) / 10 < a) = false := decide_eq_false ho
            have h10 : 10 * a + ((s[k].toNat : Int) - 48) ≤ 4611686018427387904 := by omega
            have h11 : 10 * a ≤ 4611686018427387904 := by omega
            have HF' : Hid (numFold (s.data.toList.take (k + 1)) = (10 * a + ((s[k].toNat : Int) - 48), false)) := by
              show _ = _
              rw [take_snoc s k hlt, numFold_snoc, unhide HF]
              simp only [numStep]
              rw [if_neg (by simp only [Bool.false_eq_true, false_or]; exact ho)]
            clear ho
            go_wp2_with (go_at_call 163; refine (refDigit_byte _ _).mono ?_; rintro e w' ⟨rfl, hw⟩; subst hw)
            exact ⟨⟨k + 1, _, false, by omega, rfl, rfl, by go_num, by omega, h10, HF', HA'⟩, by simp [intOf]; omega⟩
        · have HF' : Hid (numFold (s.data.toList.take (k + 1)) = (a, true)) := by
            show _ = _
            rw [take_snoc s k hlt, numFold_snoc, unhide HF]
            simp only [numStep]
            rw [if_pos (Or.inl trivial)]
          go_wp2_with (go_at_call 163; refine (refDigit_byte _ _).mono ?_; rintro e w' ⟨rfl, hw⟩; subst hw)
          exact ⟨⟨k + 1, a, true, by omega, rfl, rfl, by go_num, ha0, ha1, HF', HA'⟩, by simp [intOf]; omega⟩
    · have hne : s.data.toList ≠ [] := by
        intro h
        have hl : s.data.toList.length = s.size := by simp
        rw [h] at hl; simp at hl; omega
      have HR : Hid (numGo s.data.toList = if b = true then none else some a) := by
        show _ = _
        have hf := unhide HF
        have hal := unhide HA
        rw [take_all s k (by omega)] at hf hal
        rw [unhide HG]
        unfold numRest
        rw [if_neg hne, if_pos hal, hf]; simp
      cases b
      · go_wp2
        go_ret2
        exact ⟨⟨a, true, rfl, fun _ => by rw [unhide HR]; rfl, fun h => (by cases h)⟩, rfl⟩
      · go_wp2
        go_ret2
        exact ⟨⟨0, false, rfl, fun h => (by cases h), fun _ => by rw [unhide HR]; rfl⟩, rfl⟩

theorem rest_of (s : ByteArray) (h0 : 0 < s.size) : s.data.toList = s[0] :: (s.extract 1 s.size).data.toList := by
  have h := drop_cons s 0 h0
  rw [List.drop_zero] at h
  rw [h, Lib.extract_data]
  congr 1
  rw [List.take_of_length_le (by simp)]
theorem numGo_neg (s : ByteArray) (h0 : 0 < s.size) (h45 : ((s[0].toNat : Int) == 45) = true) : numGo s.data.toList = numRest true (s.extract 1 s.size).data.toList := by
  rw [rest_of s h0]
  rw [beq_iff_eq] at h45
  simp only [numGo]
  rw [if_pos (by omega)]
theorem numGo_pos (s : ByteArray) (h0 : 0 < s.size) (h45 : ((s[0].toNat : Int) == 45) = false) : numGo s.data.toList = numRest false s.data.toList := by
  rw [rest_of s h0]
  rw [beq_eq_false_iff_ne] at h45
  simp only [numGo]
  rw [if_neg (by omega)]

set_option maxHeartbeats 2000000 in
set_option maxRecDepth 20000 in
theorem number_neg (s : ByteArray) (w : World) (hs : s.size ≤ 20000) (h0 : 0 < s.size) (h45 : ((s[0].toNat : Int) == 45) = true) :
    Calls Tryz.prog 110 #[.string s] w fun e w' => NumRes s.data.toList e ∧ w' = w := by
  have t1 : decide (0 < (s.size : Int)) = true := decide_eq_true (by omega)
  have HG0 := hide (numGo_neg s h0 h45)
  by_cases h1 : s.size = 1
  · have HR : Hid (numGo s.data.toList = none) := by
      show _ = _
      rw [unhide HG0]
      have : (s.extract 1 s.size).data.toList = [] := by rw [Lib.extract_data, h1]; simp
      rw [this]; rfl
    have t2 : (((s.size - 1 : Nat) : Int) == 0) = true := by rw [beq_iff_eq]; omega
    have i1 : (1 : Int) ≤ s.size := by omega
    clear h1
    go_enter Tryz.func110, Tryz.ntmps110
    go_wp2
    go_ret2
    exact ⟨⟨0, false, rfl, fun h => (by cases h), fun _ => unhide HR⟩, rfl⟩
  · have hms : (s.extract 1 s.size).size = s.size - 1 := by
      rw [ByteArray.size_extract]; omega
    have t2 : (((s.size - 1 : Nat) : Int) == 0) = false := by rw [beq_eq_false_iff_ne]; omega
    have i1 : (1 : Int) ≤ s.size := by omega
    go_enter Tryz.func110, Tryz.ntmps110
    go_wp2
    generalize (s.extract 1 s.size) = m at hms HG0 ⊢
    have HG := HG0
    have hm1 : m.size ≤ 20000 := by omega
    have hm0 : 0 < m.size := by omega
    have HM := hide hms
    clear hms h1
    go_loop [5, 6, 7, 8] (fun n o i _ => ∃ (k : Nat) (a : Int) (b : Bool), k ≤ m.size ∧ n = .int .i64 a ∧ o = .bool b ∧ i = .int .i64 k ∧ 0 ≤ a ∧ a ≤ 4611686018427387904 ∧ Hid (numFold (m.data.toList.take k) = (a, b)) ∧ Hid ((m.data.toList.take k).all isD = true)) (fun _ _ i _ => m.size - (intOf i).toNat)
    case atStart => exact ⟨0, 0, false, by omega, rfl, rfl, rfl, by omega, by omega, by rfl, by rfl⟩
    case round =>
      obtain ⟨k, a, b, hk, rfl, rfl, rfl, ha0, ha1, HF, HA⟩ := hrel
      by_cases hlt : k < m.size
      · cases hd : digB m[k].toNat
        · have HR : Hid (numGo s.data.toList = none) := by
            show _ = _
            rw [unhide HG]
            unfold numRest
            have : m.data.toList.all isD = false := all_take_get m k hlt hd
            rw [this]; simp
          go_wp2_with (go_at_call 163; refine (refDigit_byte _ _).mono ?_; rintro e w' ⟨rfl, hw⟩; subst hw)
          go_ret2
          exact ⟨⟨0, false, rfl, fun h => (by cases h), fun _ => unhide HR⟩, rfl⟩
        · have hdd : 48 ≤ (m[k].toNat : Int) ∧ (m[k].toNat : Int) ≤ 57 := by simpa [digB] using hd
          obtain ⟨d0, d1⟩ := hdd
          have HA' : Hid ((m.data.toList.take (k + 1)).all isD = true) := by
            show _ = _
            rw [take_snoc m k hlt, List.all_append, unhide HA]; simp [isD, hd]
          cases b
          · by_cases ho : (4611686018427387904 - ((m[k].toNat : Int) - 48)) / 10 < a
            · have o1 : decide ((4611686018427387904 - ((m[k].toNat : Int) - 48)) / 10 < a) = true := decide_eq_true ho
              have HF' : Hid (numFold (m.data.toList.take (k + 1)) = (a, true)) := by
                show _ = _
                rw [take_snoc m k hlt, numFold_snoc, unhide HF]
                simp only [numStep]
                rw [if_pos (Or.inr ho)]
              clear ho
              go_wp2_with (go_at_call 163; refine (refDigit_byte _ _).mono ?_; rintro e w' ⟨rfl, hw⟩; subst hw)
              exact ⟨⟨k + 1, a, true, by omega, rfl, rfl, by go_num, ha0, ha1, HF', HA'⟩, by simp [intOf]; omega⟩
            · have o1 : decide ((4611686018427387904 - ((m[k].toNat : Int) - 48)) / 10 < a) = false := decide_eq_false ho
              have h10 : 10 * a + ((m[k].toNat : Int) - 48) ≤ 4611686018427387904 := by omega
              have h11 : 10 * a ≤ 4611686018427387904 := by omega
              have HF' : Hid (numFold (m.data.toList.take (k + 1)) = (10 * a + ((m[k].toNat : Int) - 48), false)) := by
                show _ = _
                rw [take_snoc m k hlt, numFold_snoc, unhide HF]
                simp only [numStep]
                rw [if_neg (by simp only [Bool.false_eq_true, false_or]; exact ho)]
              clear ho
              go_wp2_with (go_at_call 163; refine (refDigit_byte _ _).mono ?_; rintro e w' ⟨rfl, hw⟩; subst hw)
              exact ⟨⟨k + 1, _, false, by omega, rfl, rfl, by go_num, by omega, h10, HF', HA'⟩, by simp [intOf]; omega⟩
          · have HF' : Hid (numFold (m.data.toList.take (k + 1)) = (a, true)) := by
              show _ = _
              rw [take_snoc m k hlt, numFold_snoc, unhide HF]
              simp only [numStep]
              rw [if_pos (Or.inl trivial)]
            go_wp2_with (go_at_call 163; refine (refDigit_byte _ _).mono ?_; rintro e w' ⟨rfl, hw⟩; subst hw)
            exact ⟨⟨k + 1, a, true, by omega, rfl, rfl, by go_num, ha0, ha1, HF', HA'⟩, by simp [intOf]; omega⟩
      · have hne : m.data.toList ≠ [] := by
          intro h
          have hl : m.data.toList.length = m.size := by simp
          rw [h] at hl; simp at hl; omega
        have HR : Hid (numGo s.data.toList = if b = true then none else some (-a)) := by
          show _ = _
          have hf := unhide HF
          have hal := unhide HA
          rw [take_all m k (by omega)] at hf hal
          rw [unhide HG]
          unfold numRest
          rw [if_neg hne, if_pos hal, hf]; simp
        cases b
        · go_wp2
          go_ret2
          exact ⟨⟨-a, true, rfl, fun _ => by rw [unhide HR]; rfl, fun h => (by cases h)⟩, rfl⟩
        · go_wp2
          go_ret2
          exact ⟨⟨0, false, rfl, fun h => (by cases h), fun _ => by rw [unhide HR]; rfl⟩, rfl⟩
end Go.Proofs.YtcjnhhbcleljmaaGreatDoor
namespace Go.Proofs.YtcjnhhbcleljmaaGreatDoor
open Go.RowKit
open V

set_option maxHeartbeats 400000 in
theorem number_any (s : ByteArray) (w : World) (hs : s.size ≤ 20000) :
    Calls Tryz.prog 110 #[.string s] w fun e w' => NumRes s.data.toList e ∧ w' = w := by
  by_cases h0 : 0 < s.size
  · cases h : ((s[0].toNat : Int) == 45)
    · exact number_loop s w hs h0 h (hide (numGo_pos s h0 h))
    · exact number_neg s w hs h0 h
  · have hz : s.size = 0 := by omega
    have HR : Hid (numGo s.data.toList = none) := by
      show _ = _
      have : s.data.toList = [] := List.length_eq_zero_iff.1 (by rw [Array.length_toList]; exact hz)
      rw [this]; rfl
    have t1 : decide (0 < (s.size : Int)) = false := decide_eq_false (by omega)
    have t2 : ((s.size : Int) == 0) = true := by rw [beq_iff_eq]; omega
    clear h0 hz
    go_enter Tryz.func110, Tryz.ntmps110
    go_wp2
    go_ret2
    exact ⟨⟨0, false, rfl, fun h => (by cases h), fun _ => unhide HR⟩, rfl⟩

theorem data_app2 (a b : ByteArray) : (a ++ b).data.toList = a.data.toList ++ b.data.toList := by
  rw [ByteArray.data_append]; simp
theorem size_app2 (a b : ByteArray) : (a ++ b).size = a.size + b.size := ByteArray.size_append
theorem data_one2 (s : ByteArray) (k : Nat) (h : k < s.size) : (s.extract k (k + 1)).data.toList = [s[k]] := by
  rw [Lib.extract_data, List.drop_eq_getElem_cons (by simpa using h), show k + 1 - k = 1 by omega]
  rfl
theorem size_one2 (s : ByteArray) (k : Nat) (h : k < s.size) : (s.extract k (k + 1)).size = 1 := by
  have e : (s.extract k (k + 1)).data.toList.length = (s.extract k (k + 1)).size := by rw [Array.length_toList]; rfl
  rw [← e, data_one2 s k h]; rfl


/-- What Quoted may answer. -/
def QuoRes (l : List UInt8) (e : Ending) : Prop := ∃ (t : ByteArray) (b : Bool), e = .returned (.tuple #[.string t, .bool b]) ∧ (b = true → quotedGo l = some t.data.toList) ∧ (b = false → quotedGo l = none) ∧ t.size ≤ 40000

set_option maxHeartbeats 2000000 in
theorem quoted_loop (s : ByteArray) (w : World) (hs : s.size ≤ 20000) (h2 : 2 ≤ s.size) (h34 : ((s[0].toNat : Int) != 34) = false) (HG : Hid (quotedGo s.data.toList = qScan (s.data.toList.drop 1) [])) :
    Calls Tryz.prog 168 #[.string s] w fun e w' => QuoRes s.data.toList e ∧ w' = w := by
  have t1 : decide ((s.size : Int) < 2) = false := decide_eq_false (by omega)
  go_enter Tryz.func168, Tryz.ntmps168
  go_wp2
  go_loop [4, 5] (fun o i => ∃ (k : Nat) (acc : ByteArray), 1 ≤ k ∧ k ≤ s.size ∧ o = .string acc ∧ i = .int .i64 k ∧ acc.size ≤ k ∧ Hid (quotedGo s.data.toList = qScan (s.data.toList.drop k) acc.data.toList)) (fun _ i => s.size - (intOf i).toNat)
  case atStart => exact ⟨1, ⟨#[]⟩, by omega, by omega, rfl, rfl, by decide, HG⟩
  case round =>
    obtain ⟨k, acc, hk1, hk, rfl, rfl, hac, HQ⟩ := hrel
    have hacl : acc.data.toList.length = acc.size := by rw [Array.length_toList]; rfl
    by_cases hlt : k < s.size
    · have hdc := drop_cons s k hlt
      have hse := size_one2 s k hlt
      have hda := data_one2 s k hlt
      by_cases c1 : (s[k].toNat : Int) = 34
      · have d1 : ((s[k].toNat : Int) == 34) = true := by simp [c1]
        by_cases hla : k = s.size - 1
        · have l1 : ((k : Int) == (s.size : Int) - 1) = true := by rw [beq_iff_eq]; omega
          by_cases h60 : acc.size ≤ 60
          · have l2 : decide ((acc.size : Int) ≤ 60) = true := decide_eq_true (by omega)
            have HR : Hid (quotedGo s.data.toList = some acc.data.toList) := by
              show _ = _
              rw [unhide HQ, hdc, qScan_q c1, drop_end s (k + 1) (by omega), if_pos ⟨rfl, by omega⟩]
            clear c1 hdc hse hda hacl hla
            go_wp2
            go_ret2
            exact ⟨⟨acc, true, rfl, fun _ => unhide HR, fun h => (by cases h), by omega⟩, rfl⟩
          · have l2 : decide ((acc.size : Int) ≤ 60) = false := decide_eq_false (by omega)
            have HR : Hid (quotedGo s.data.toList = none) := by
              show _ = _
              rw [unhide HQ, hdc, qScan_q c1, if_neg (fun h => by omega)]
            clear c1 hdc hse hda hacl hla
            go_wp2
            go_ret2
            exact ⟨⟨acc, false, rfl, fun h => (by cases h), fun _ => unhide HR, by omega⟩, rfl⟩
        · have l1 : ((k : Int) == (s.size : Int) - 1) = false := by rw [beq_eq_false_iff_ne]; omega
          have HR : Hid (quotedGo s.data.toList = none) := by
            show _ = _
            rw [unhide HQ, hdc, qScan_q c1, if_neg]
            intro h
            rw [drop_cons s (k + 1) (by omega)] at h
            simp at h
          clear c1 hdc hse hda hacl hla
          go_wp2
          go_ret2
          exact ⟨⟨acc, false, rfl, fun h => (by cases h), fun _ => unhide HR, by omega⟩, rfl⟩
      · have d1 : ((s[k].toNat : Int) == 34) = false := by simp [c1]
        by_cases c2 : (s[k].toNat : Int) = 92
        · have d2 : ((s[k].toNat : Int) == 92) = true := by simp [c2]
          by_cases hla : k + 1 < s.size
          · have l1 : decide ((s.size : Int) ≤ (k : Int) + 1) = false := decide_eq_false (by omega)
            have hdc' := drop_cons s (k + 1) hla
            have hse' := size_one2 s (k + 1) hla
            have hda' := data_one2 s (k + 1) hla
            by_cases e1 : (s[k + 1].toNat : Int) = 34
            · have f1 : ((s[k + 1].toNat : Int) != 34) = false := by simp [e1]
              have HR : Hid (quotedGo s.data.toList = qScan (s.data.toList.drop (k + 2)) (acc ++ s.extract (k + 1) (k + 2)).data.toList) := by
                show _ = _
                rw [unhide HQ, hdc, hdc', qScan_esc c2 (escB_t (Or.inl e1)), data_app2, hda']
              have HZ : Hid ((acc ++ s.extract (k + 1) (k + 2)).size ≤ k + 2) := by
                show _ ≤ _
                rw [size_app2, hse']; omega
              clear c1 c2 hdc hse hda hacl hdc' hse' hda' e1
              go_wp2
              exact ⟨⟨k + 2, _, by omega, by omega, rfl, by go_num, unhide HZ, HR⟩, by simp [intOf]; omega⟩
            · have f1 : ((s[k + 1].toNat : Int) != 34) = true := by simp [e1]
              by_cases e2 : (s[k + 1].toNat : Int) = 92
              · have f2 : ((s[k + 1].toNat : Int) != 92) = false := by simp [e2]
                have HR : Hid (quotedGo s.data.toList = qScan (s.data.toList.drop (k + 2)) (acc ++ s.extract (k + 1) (k + 2)).data.toList) := by
                  show _ = _
                  rw [unhide HQ, hdc, hdc', qScan_esc c2 (escB_t (Or.inr e2)), data_app2, hda']
                have HZ : Hid ((acc ++ s.extract (k + 1) (k + 2)).size ≤ k + 2) := by
                  show _ ≤ _
                  rw [size_app2, hse']; omega
                clear c1 c2 hdc hse hda hacl hdc' hse' hda' e1 e2
                go_wp2
                exact ⟨⟨k + 2, _, by omega, by omega, rfl, by go_num, unhide HZ, HR⟩, by simp [intOf]; omega⟩
              · have f2 : ((s[k + 1].toNat : Int) != 92) = true := by simp [e2]
                have HR : Hid (quotedGo s.data.toList = none) := by
                  show _ = _
                  rw [unhide HQ, hdc, hdc', qScan_noesc c2 (escB_f (by omega))]
                clear c1 c2 hdc hse hda hacl hdc' hse' hda' e1 e2
                go_wp2
                go_ret2
                exact ⟨⟨⟨#[]⟩, false, rfl, fun h => (by cases h), fun _ => unhide HR, by decide⟩, rfl⟩
          · have l1 : decide ((s.size : Int) ≤ (k : Int) + 1) = true := decide_eq_true (by omega)
            have HR : Hid (quotedGo s.data.toList = none) := by
              show _ = _
              rw [unhide HQ, hdc, drop_end s (k + 1) (by omega), qScan_last c2]
            clear c1 c2 hdc hse hda hacl hla
            go_wp2
            go_ret2
            exact ⟨⟨⟨#[]⟩, false, rfl, fun h => (by cases h), fun _ => unhide HR, by decide⟩, rfl⟩
        · have d2 : ((s[k].toNat : Int) == 92) = false := by simp [c2]
          have hw := byte_wrap s[k]
          cases hc : strC s[k]
          · have hc' : inB (s[k].toNat : Int) 32 126 = false := hc
            have HR : Hid (quotedGo s.data.toList = none) := by
              show _ = _
              rw [unhide HQ, hdc, qScan_out c1 c2 hc]
            clear c1 c2 hdc hse hda hacl hc
            go_wp2_with (go_at_call 118; refine (refIn_any _ _ _ _).mono ?_; rintro e w' ⟨rfl, hw⟩; subst hw)
            go_ret2
            exact ⟨⟨⟨#[]⟩, false, rfl, fun h => (by cases h), fun _ => unhide HR, by decide⟩, rfl⟩
          · have hc' : inB (s[k].toNat : Int) 32 126 = true := hc
            have HR : Hid (quotedGo s.data.toList = qScan (s.data.toList.drop (k + 1)) (acc ++ s.extract k (k + 1)).data.toList) := by
              show _ = _
              rw [unhide HQ, hdc, qScan_plain c1 c2 hc, data_app2, hda]
            have HZ : Hid ((acc ++ s.extract k (k + 1)).size ≤ k + 1) := by
              show _ ≤ _
              rw [size_app2, hse]; omega
            clear c1 c2 hdc hse hda hacl hc
            go_wp2_with (go_at_call 118; refine (refIn_any _ _ _ _).mono ?_; rintro e w' ⟨rfl, hw⟩; subst hw)
            exact ⟨⟨k + 1, _, by omega, by omega, rfl, by go_num, unhide HZ, HR⟩, by simp [intOf]; omega⟩
    · have HR : Hid (quotedGo s.data.toList = none) := by
        show _ = _
        rw [unhide HQ, drop_end s k (by omega)]; rfl
      clear hacl
      go_wp2
      go_ret2
      exact ⟨⟨⟨#[]⟩, false, rfl, fun h => (by cases h), fun _ => unhide HR, by decide⟩, rfl⟩
set_option maxHeartbeats 400000 in
theorem quoted_any (s : ByteArray) (w : World) (hs : s.size ≤ 20000) :
    Calls Tryz.prog 168 #[.string s] w fun e w' => QuoRes s.data.toList e ∧ w' = w := by
  have hsl : s.data.toList.length = s.size := by rw [Array.length_toList]; rfl
  by_cases h2 : 2 ≤ s.size
  · have hg := get_data s 0 (by omega)
    cases h : ((s[0].toNat : Int) != 34)
    · have h' : (s[0].toNat : Int) = 34 := by simpa using h
      refine quoted_loop s w hs h2 h (hide ?_)
      unfold quotedGo
      rw [if_neg (by omega), if_pos (by rw [hg]; show s[0].toNat = 34; omega)]
    · have HR : Hid (quotedGo s.data.toList = none) := by
        show _ = _
        have h' : ¬ (s[0].toNat : Int) = 34 := by simpa using h
        unfold quotedGo
        rw [if_neg (by omega), if_neg (by rw [hg]; show ¬ s[0].toNat = 34; omega)]
      have t1 : decide ((s.size : Int) < 2) = false := decide_eq_false (by omega)
      go_enter Tryz.func168, Tryz.ntmps168
      go_wp2
      go_ret2
      exact ⟨⟨⟨#[]⟩, false, rfl, fun h => (by cases h), fun _ => unhide HR, by decide⟩, rfl⟩
  · have HR : Hid (quotedGo s.data.toList = none) := by
      show _ = _
      unfold quotedGo
      rw [if_pos (by omega)]
    have t1 : decide ((s.size : Int) < 2) = true := decide_eq_true (by omega)
    go_enter Tryz.func168, Tryz.ntmps168
    go_wp2
    go_ret2
    exact ⟨⟨⟨#[]⟩, false, rfl, fun h => (by cases h), fun _ => unhide HR, by decide⟩, rfl⟩

end Go.Proofs.YtcjnhhbcleljmaaGreatDoor
namespace Go.Proofs.YtcjnhhbcleljmaaGreatDoor
open Go.RowKit
open V

set_option maxHeartbeats 400000 in
theorem lexDigit_any (c : Int) (w : World) (h0 : 0 ≤ c) (h1 : c ≤ 255) :
    Calls Tryz.prog 177 #[.int .u8 c] w fun e w' => e = .returned (.bool (digB c)) ∧ w' = w := by
  by_cases ha : 48 ≤ c
  · by_cases hb : c ≤ 57
    · rw [digB_t ha hb]
      go_enter Tryz.func177, Tryz.ntmps177
      go_wp2
      go_ret
      exact ⟨rfl, rfl⟩
    · rw [digB_f (by omega)]
      go_enter Tryz.func177, Tryz.ntmps177
      go_wp2
      go_ret
      exact ⟨rfl, rfl⟩
  · rw [digB_f (by omega)]
    go_enter Tryz.func177, Tryz.ntmps177
    go_wp2
    go_ret
    exact ⟨rfl, rfl⟩

theorem lexDigit_byte (c : UInt8) (w : World) : Calls Tryz.prog 177 #[.int .u8 c.toNat] w fun e w' => e = .returned (.bool (digB c.toNat)) ∧ w' = w :=
  lexDigit_any _ _ (by omega) (by have := c.toNat_lt; omega)
set_option maxHeartbeats 400000 in
theorem lexLower_any (c : Int) (w : World) (h0 : 0 ≤ c) (h1 : c ≤ 255) :
    Calls Tryz.prog 138 #[.int .u8 c] w fun e w' => e = .returned (.bool (lowB c)) ∧ w' = w := by
  by_cases ha : 97 ≤ c
  · by_cases hb : c ≤ 122
    · rw [lowB_t ha hb]
      go_enter Tryz.func138, Tryz.ntmps138
      go_wp2
      go_ret
      exact ⟨rfl, rfl⟩
    · rw [lowB_f (by omega)]
      go_enter Tryz.func138, Tryz.ntmps138
      go_wp2
      go_ret
      exact ⟨rfl, rfl⟩
  · rw [lowB_f (by omega)]
    go_enter Tryz.func138, Tryz.ntmps138
    go_wp2
    go_ret
    exact ⟨rfl, rfl⟩

theorem lexLower_byte (c : UInt8) (w : World) : Calls Tryz.prog 138 #[.int .u8 c.toNat] w fun e w' => e = .returned (.bool (lowB c.toNat)) ∧ w' = w :=
  lexLower_any _ _ (by omega) (by have := c.toNat_lt; omega)
set_option maxHeartbeats 400000 in
theorem lexUpper_any (c : Int) (w : World) (h0 : 0 ≤ c) (h1 : c ≤ 255) :
    Calls Tryz.prog 140 #[.int .u8 c] w fun e w' => e = .returned (.bool (upB c)) ∧ w' = w := by
  by_cases ha : 65 ≤ c
  · by_cases hb : c ≤ 90
    · rw [upB_t ha hb]
      go_enter Tryz.func140, Tryz.ntmps140
      go_wp2
      go_ret
      exact ⟨rfl, rfl⟩
    · rw [upB_f (by omega)]
      go_enter Tryz.func140, Tryz.ntmps140
      go_wp2
      go_ret
      exact ⟨rfl, rfl⟩
  · rw [upB_f (by omega)]
    go_enter Tryz.func140, Tryz.ntmps140
    go_wp2
    go_ret
    exact ⟨rfl, rfl⟩

theorem lexUpper_byte (c : UInt8) (w : World) : Calls Tryz.prog 140 #[.int .u8 c.toNat] w fun e w' => e = .returned (.bool (upB c.toNat)) ∧ w' = w :=
  lexUpper_any _ _ (by omega) (by have := c.toNat_lt; omega)

set_option maxHeartbeats 1000000 in
theorem lexInner_byte (c : UInt8) (w : World) : Calls Tryz.prog 139 #[.int .u8 c.toNat] w fun e w' => e = .returned (.bool (innB c)) ∧ w' = w := by
  cases c1 : lowB c.toNat
  · cases c2 : upB c.toNat
    · cases c3 : digB c.toNat
      · cases c4 : (c.toNat : Int) == 95
        · have HI := hide (show innB c = false by simp only [innB, c1, c2, c3, c4]; rfl)
          go_enter Tryz.func139, Tryz.ntmps139
          go_wp2_with (first | (go_at_call 138; refine (lexLower_byte _ _).mono ?_; rintro e w' ⟨rfl, rfl⟩) | (go_at_call 140; refine (lexUpper_byte _ _).mono ?_; rintro e w' ⟨rfl, rfl⟩) | (go_at_call 177; refine (lexDigit_byte _ _).mono ?_; rintro e w' ⟨rfl, rfl⟩))
          go_ret
          exact ⟨ret_bool (unhide HI), rfl⟩
        · have HI := hide (show innB c = true by simp only [innB, c1, c2, c3, c4]; rfl)
          go_enter Tryz.func139, Tryz.ntmps139
          go_wp2_with (first | (go_at_call 138; refine (lexLower_byte _ _).mono ?_; rintro e w' ⟨rfl, rfl⟩) | (go_at_call 140; refine (lexUpper_byte _ _).mono ?_; rintro e w' ⟨rfl, rfl⟩) | (go_at_call 177; refine (lexDigit_byte _ _).mono ?_; rintro e w' ⟨rfl, rfl⟩))
          go_ret
          exact ⟨ret_bool (unhide HI), rfl⟩
      · have HI := hide (show innB c = true by simp [innB, c3])
        go_enter Tryz.func139, Tryz.ntmps139
        go_wp2_with (first | (go_at_call 138; refine (lexLower_byte _ _).mono ?_; rintro e w' ⟨rfl, rfl⟩) | (go_at_call 140; refine (lexUpper_byte _ _).mono ?_; rintro e w' ⟨rfl, rfl⟩) | (go_at_call 177; refine (lexDigit_byte _ _).mono ?_; rintro e w' ⟨rfl, rfl⟩))
        go_ret
        exact ⟨ret_bool (unhide HI), rfl⟩
    · have HI := hide (show innB c = true by simp [innB, c2])
      go_enter Tryz.func139, Tryz.ntmps139
      go_wp2_with (first | (go_at_call 138; refine (lexLower_byte _ _).mono ?_; rintro e w' ⟨rfl, rfl⟩) | (go_at_call 140; refine (lexUpper_byte _ _).mono ?_; rintro e w' ⟨rfl, rfl⟩) | (go_at_call 177; refine (lexDigit_byte _ _).mono ?_; rintro e w' ⟨rfl, rfl⟩))
      go_ret
      exact ⟨ret_bool (unhide HI), rfl⟩
  · have HI := hide (show innB c = true by simp [innB, c1])
    go_enter Tryz.func139, Tryz.ntmps139
    go_wp2_with (first | (go_at_call 138; refine (lexLower_byte _ _).mono ?_; rintro e w' ⟨rfl, rfl⟩) | (go_at_call 140; refine (lexUpper_byte _ _).mono ?_; rintro e w' ⟨rfl, rfl⟩) | (go_at_call 177; refine (lexDigit_byte _ _).mono ?_; rintro e w' ⟨rfl, rfl⟩))
    go_ret
    exact ⟨ret_bool (unhide HI), rfl⟩

set_option maxHeartbeats 1000000 in
theorem innerR_byte (c : UInt8) (w : World) : Calls Tryz.prog 166 #[.int .u8 c.toNat] w fun e w' => e = .returned (.bool (innB c)) ∧ w' = w := by
  cases c1 : lowB c.toNat
  · cases c2 : upB c.toNat
    · cases c3 : digB c.toNat
      · cases c4 : (c.toNat : Int) == 95
        · have HI := hide (show innB c = false by simp only [innB, c1, c2, c3, c4]; rfl)
          go_enter Tryz.func166, Tryz.ntmps166
          go_wp2_with (first | (go_at_call 164; refine (refLower_byte _ _).mono ?_; rintro e w' ⟨rfl, rfl⟩) | (go_at_call 165; refine (refUpper_byte _ _).mono ?_; rintro e w' ⟨rfl, rfl⟩) | (go_at_call 163; refine (refDigit_byte _ _).mono ?_; rintro e w' ⟨rfl, rfl⟩))
          go_ret
          exact ⟨ret_bool (unhide HI), rfl⟩
        · have HI := hide (show innB c = true by simp only [innB, c1, c2, c3, c4]; rfl)
          go_enter Tryz.func166, Tryz.ntmps166
          go_wp2_with (first | (go_at_call 164; refine (refLower_byte _ _).mono ?_; rintro e w' ⟨rfl, rfl⟩) | (go_at_call 165; refine (refUpper_byte _ _).mono ?_; rintro e w' ⟨rfl, rfl⟩) | (go_at_call 163; refine (refDigit_byte _ _).mono ?_; rintro e w' ⟨rfl, rfl⟩))
          go_ret
          exact ⟨ret_bool (unhide HI), rfl⟩
      · have HI := hide (show innB c = true by simp [innB, c3])
        go_enter Tryz.func166, Tryz.ntmps166
        go_wp2_with (first | (go_at_call 164; refine (refLower_byte _ _).mono ?_; rintro e w' ⟨rfl, rfl⟩) | (go_at_call 165; refine (refUpper_byte _ _).mono ?_; rintro e w' ⟨rfl, rfl⟩) | (go_at_call 163; refine (refDigit_byte _ _).mono ?_; rintro e w' ⟨rfl, rfl⟩))
        go_ret
        exact ⟨ret_bool (unhide HI), rfl⟩
    · have HI := hide (show innB c = true by simp [innB, c2])
      go_enter Tryz.func166, Tryz.ntmps166
      go_wp2_with (first | (go_at_call 164; refine (refLower_byte _ _).mono ?_; rintro e w' ⟨rfl, rfl⟩) | (go_at_call 165; refine (refUpper_byte _ _).mono ?_; rintro e w' ⟨rfl, rfl⟩) | (go_at_call 163; refine (refDigit_byte _ _).mono ?_; rintro e w' ⟨rfl, rfl⟩))
      go_ret
      exact ⟨ret_bool (unhide HI), rfl⟩
  · have HI := hide (show innB c = true by simp [innB, c1])
    go_enter Tryz.func166, Tryz.ntmps166
    go_wp2_with (first | (go_at_call 164; refine (refLower_byte _ _).mono ?_; rintro e w' ⟨rfl, rfl⟩) | (go_at_call 165; refine (refUpper_byte _ _).mono ?_; rintro e w' ⟨rfl, rfl⟩) | (go_at_call 163; refine (refDigit_byte _ _).mono ?_; rintro e w' ⟨rfl, rfl⟩))
    go_ret
    exact ⟨ret_bool (unhide HI), rfl⟩

theorem byte_eqI (c : UInt8) (n : Nat) (h : n < 256) : ((c.toNat : Int) == n) = (c == UInt8.ofNat n) := by
  rw [Bool.eq_iff_iff, beq_iff_eq, beq_iff_eq]
  constructor
  · intro e
    have : c.toNat = n := by omega
    rw [← this, UInt8.ofNat_toNat]
  · intro e
    rw [e, UInt8.toNat_ofNat']
    have : n % 2 ^ 8 = n := Nat.mod_eq_of_lt h
    omega
set_option maxHeartbeats 1000000 in
theorem lexBlank_byte (c : UInt8) (w : World) : Calls Tryz.prog 137 #[.int .u8 c.toNat] w fun e w' => e = .returned (.bool (blankB c)) ∧ w' = w := by
  have HB : Hid (blankB c = (((c.toNat : Int) == 32) || ((c.toNat : Int) == 9) || ((c.toNat : Int) == 13) || ((c.toNat : Int) == 10))) := by
    show _ = _
    have h1 := byte_eqI c 32 (by decide)
    have h2 := byte_eqI c 9 (by decide)
    have h3 := byte_eqI c 13 (by decide)
    have h4 := byte_eqI c 10 (by decide)
    simp only [blankB]
    rw [show ((c.toNat : Int) == 32) = _ from h1, show ((c.toNat : Int) == 9) = _ from h2, show ((c.toNat : Int) == 13) = _ from h3, show ((c.toNat : Int) == 10) = _ from h4]
    rfl
  cases c1 : (c.toNat : Int) == 32
  · cases c2 : (c.toNat : Int) == 9
    · cases c3 : (c.toNat : Int) == 13
      · cases c4 : (c.toNat : Int) == 10
        · have HI := hide (show blankB c = false by rw [unhide HB, c1, c2, c3, c4]; rfl)
          go_enter Tryz.func137, Tryz.ntmps137
          go_wp2
          go_ret
          exact ⟨ret_bool (unhide HI), rfl⟩
        · have HI := hide (show blankB c = true by rw [unhide HB, c1, c2, c3, c4]; rfl)
          go_enter Tryz.func137, Tryz.ntmps137
          go_wp2
          go_ret
          exact ⟨ret_bool (unhide HI), rfl⟩
      · have HI := hide (show blankB c = true by rw [unhide HB, c1, c2, c3]; rfl)
        go_enter Tryz.func137, Tryz.ntmps137
        go_wp2
        go_ret
        exact ⟨ret_bool (unhide HI), rfl⟩
    · have HI := hide (show blankB c = true by rw [unhide HB, c1, c2]; rfl)
      go_enter Tryz.func137, Tryz.ntmps137
      go_wp2
      go_ret
      exact ⟨ret_bool (unhide HI), rfl⟩
  · have HI := hide (show blankB c = true by rw [unhide HB, c1]; rfl)
    go_enter Tryz.func137, Tryz.ntmps137
    go_wp2
    go_ret
    exact ⟨ret_bool (unhide HI), rfl⟩
theorem lexInLine_byte (c : UInt8) (w : World) : Calls Tryz.prog 136 #[.int .u8 c.toNat] w fun e w' => e = .returned (.bool (c != 10)) ∧ w' = w := by
  have HI := hide (show (c != 10) = ((c.toNat : Int) != 10) by
    have h4 := byte_eqI c 10 (by decide)
    show (!(c == 10)) = (!((c.toNat : Int) == 10))
    rw [show ((c.toNat : Int) == 10) = _ from h4]; rfl)
  go_enter Tryz.func136, Tryz.ntmps136
  go_wp2
  go_ret
  exact ⟨ret_bool (unhide HI), rfl⟩

namespace V
theorem tw_all {p : UInt8 → Bool} {l : List UInt8} {k : Nat} (hk : k < l.length) (h : (l.take k).all p = true) (hp : p l[k] = false) : (l.takeWhile p).length = k := by
  induction l generalizing k with
  | nil => simp at hk
  | cons a l ih =>
    cases k with
    | zero => rw [List.takeWhile_cons, if_neg (by simpa using hp)]; rfl
    | succ k =>
      simp only [List.take_succ_cons, List.all_cons, Bool.and_eq_true] at h
      rw [List.takeWhile_cons, if_pos h.1, List.length_cons, ih (by simpa using hk) h.2 (by simpa using hp)]
theorem tw_whole {p : UInt8 → Bool} {l : List UInt8} (h : l.all p = true) : (l.takeWhile p).length = l.length := by
  induction l with
  | nil => rfl
  | cons a l ih =>
    simp only [List.all_cons, Bool.and_eq_true] at h
    rw [List.takeWhile_cons, if_pos h.1, List.length_cons, ih h.2, List.length_cons]
end V

set_option maxHeartbeats 1000000 in
set_option maxRecDepth 100000 in
theorem span_any (s : ByteArray) (f : Nat) (p : UInt8 → Bool) (w : World) (hs : s.size ≤ 20000) (hrun : Hid (∀ (a : Array Value) (w : World), (callFunc f a).run Tryz.prog w = .ok (.enter f a) w))
    (hp : ∀ (c : UInt8) (w : World), Calls Tryz.prog f #[.int .u8 c.toNat] w fun e w' => e = .returned (.bool (p c)) ∧ w' = w) :
    Calls Tryz.prog 135 #[.string s, .func (.func f) #[] #[]] w fun e w' => e = .returned (.int .i64 (s.data.toList.takeWhile p).length) ∧ w' = w := by
  go_enter Tryz.func135, Tryz.ntmps135
  go_wp2
  go_loop [8] (fun i => ∃ k : Nat, k ≤ s.size ∧ i = .int .i64 k ∧ Hid ((s.data.toList.take k).all p = true)) (fun i => s.size - (intOf i).toNat)
  case atStart => exact ⟨0, Nat.zero_le _, rfl, by rfl⟩
  case round =>
    obtain ⟨k, hk, rfl, HA⟩ := hrel
    by_cases hlt : k < s.size
    · have hl : s.data.toList.length = s.size := by simp
      have hg : s.data.toList[k]'(by rw [hl]; exact hlt) = s[k] := rfl
      cases hi : p s[k]
      · have HR := hide (tw_all (p := p) (l := s.data.toList) (k := k) (by rw [hl]; exact hlt) (unhide HA) (by rw [hg]; exact hi))
        have HP := hide (hp s[k])
        clear hg hl hp
        go_wp2_with fail
        rw [unhide hrun, Oper.upon_enter]
        refine (unhide HP _).mono ?_
        rintro e w1 ⟨rfl, rfl⟩
        rw [hi]
        go_wp2_with fail
        go_ret
        exact ⟨by rw [unhide HR]; rfl, rfl⟩
      · have HA' : Hid ((s.data.toList.take (k + 1)).all p = true) := by
          show _ = _
          rw [take_snoc s k hlt, List.all_append, unhide HA]; simp [hi]
        have HP := hide (hp s[k])
        clear hg hl hp
        go_wp2_with fail
        rw [unhide hrun, Oper.upon_enter]
        refine (unhide HP _).mono ?_
        rintro e w1 ⟨rfl, rfl⟩
        rw [hi]
        go_wp2_with fail
        go_round
        case rel => exact ⟨k + 1, by omega, by go_num, HA'⟩
        case measure => simp [intOf]; omega
    · have HR : Hid ((s.data.toList.takeWhile p).length = s.size) := by
        show _ = _
        have h := unhide HA
        rw [take_all s k (by omega)] at h
        rw [tw_whole h]; simp
      go_wp2_with fail
      go_ret
      exact ⟨by rw [unhide HR]; rfl, rfl⟩

theorem enters {f : FuncId} {fn : Func} (hf : Tryz.prog.funcs[f]? = some fn) (hname : (fn.name == "runtime.NumGoroutine") = false) (hb : fn.body.isSome = true) :
    Hid (∀ (a : Array Value) (w : World), (callFunc f a).run Tryz.prog w = .ok (.enter f a) w) := by
  refine hide (fun args w => ?_)
  have h1 : fn.name ≠ "runtime.NumGoroutine" := by simpa using hname
  obtain ⟨c, hc⟩ := Option.isSome_iff_exists.1 hb
  simp [callFunc, hf, h1, hc]
theorem span25 (s : ByteArray) (w : World) (hs : s.size ≤ 20000) : Calls Tryz.prog 135 #[.string s, .func (.func 136) #[] #[]] w fun e w' => e = .returned (.int .i64 (s.data.toList.takeWhile (· != 10)).length) ∧ w' = w :=
  span_any s 136 (· != 10) w hs (enters Tryz.func136 (by kernel_rfl) (by kernel_rfl)) lexInLine_byte
theorem span26 (s : ByteArray) (w : World) (hs : s.size ≤ 20000) : Calls Tryz.prog 135 #[.string s, .func (.func 137) #[] #[]] w fun e w' => e = .returned (.int .i64 (s.data.toList.takeWhile blankB).length) ∧ w' = w :=
  span_any s 137 blankB w hs (enters Tryz.func137 (by kernel_rfl) (by kernel_rfl)) lexBlank_byte
theorem span28 (s : ByteArray) (w : World) (hs : s.size ≤ 20000) : Calls Tryz.prog 135 #[.string s, .func (.func 139) #[] #[]] w fun e w' => e = .returned (.int .i64 (s.data.toList.takeWhile innB).length) ∧ w' = w :=
  span_any s 139 innB w hs (enters Tryz.func139 (by kernel_rfl) (by kernel_rfl)) lexInner_byte
theorem span47 (s : ByteArray) (w : World) (hs : s.size ≤ 20000) : Calls Tryz.prog 135 #[.string s, .func (.func 177) #[] #[]] w fun e w' => e = .returned (.int .i64 (s.data.toList.takeWhile digC).length) ∧ w' = w :=
  span_any s 177 digC w hs (enters Tryz.func177 (by kernel_rfl) (by kernel_rfl)) lexDigit_byte
end Go.Proofs.YtcjnhhbcleljmaaGreatDoor
namespace Go.Proofs.YtcjnhhbcleljmaaGreatDoor
open Go.RowKit
open V

theorem list_cons (s : ByteArray) (h : 0 < s.size) : s.data.toList = s[0] :: (s.extract 1 s.size).data.toList := rest_of s h
theorem ext_size (s : ByteArray) (h : 0 < s.size) : (s.extract 1 s.size).size = s.size - 1 := by
  rw [ByteArray.size_extract]; omega

set_option maxHeartbeats 1000000 in
set_option maxRecDepth 100000 in
theorem blank_any (s : ByteArray) (w : World) (hs : s.size ≤ 20000) (h0 : 0 < s.size) :
    Calls Tryz.prog 86 #[.string s] w fun e w' => e = .returned (.int .i64 (blankN s.data.toList)) ∧ w' = w := by
  have hb := byte_eqI s[0] 37 (by decide)
  cases c : ((s[0].toNat : Int) == 37)
  · have HR : Hid (blankN s.data.toList = (s.data.toList.takeWhile blankB).length) := by
      show _ = _
      unfold blankN
      rw [if_neg]
      rw [list_cons s h0]
      show ¬ (s[0] == 37) = true
      rw [show (s[0] == 37) = _ from hb.symm]
      show ¬ (((s[0].toNat : Int) == 37) = true)
      rw [c]; simp
    clear hb
    go_enter Tryz.func86, Tryz.ntmps86
    go_wp2_with (go_at_call 135; refine (span26 _ _ hs).mono ?_; rintro e w' ⟨rfl, rfl⟩)
    go_ret
    exact ⟨by rw [unhide HR]; rfl, rfl⟩
  · have HR : Hid (blankN s.data.toList = (s.data.toList.takeWhile (· != 10)).length) := by
      show _ = _
      unfold blankN
      rw [if_pos]
      rw [list_cons s h0]
      show (s[0] == 37) = true
      rw [show (s[0] == 37) = _ from hb.symm]
      exact c
    clear hb
    go_enter Tryz.func86, Tryz.ntmps86
    go_wp2_with (go_at_call 135; refine (span25 _ _ hs).mono ?_; rintro e w' ⟨rfl, rfl⟩)
    go_ret
    exact ⟨by rw [unhide HR]; rfl, rfl⟩

theorem strN_q {c : UInt8} {r : List UInt8} (h : (c.toNat : Int) = 34) : strN (c :: r) = some 1 := by
  have : c = 34 := UInt8.toNat_inj.1 (by show c.toNat = 34; omega)
  rw [strN_cons, if_pos this]
theorem strN_esc {c d : UInt8} {r : List UInt8} (h : (c.toNat : Int) = 92) : strN (c :: d :: r) = (strN r).map (· + 2) := by
  have : c = 92 := UInt8.toNat_inj.1 (by show c.toNat = 92; omega)
  rw [strN_cons, if_neg (by rw [this]; decide), if_pos this]
theorem strN_last {c : UInt8} (h : (c.toNat : Int) = 92) : strN [c] = none := by
  have : c = 92 := UInt8.toNat_inj.1 (by show c.toNat = 92; omega)
  rw [strN_cons, if_neg (by rw [this]; decide), if_pos this]
theorem strN_plain {c : UInt8} {r : List UInt8} (h : ¬ (c.toNat : Int) = 34) (h' : ¬ (c.toNat : Int) = 92) : strN (c :: r) = (strN r).map (· + 1) := by
  rw [strN_cons, if_neg (by rintro rfl; exact h rfl), if_neg (by rintro rfl; exact h' rfl)]

set_option maxHeartbeats 2000000 in
set_option maxRecDepth 100000 in
theorem quotes_any (s : ByteArray) (w : World) (hs : s.size ≤ 20000) (h0 : 0 < s.size) :
    Calls Tryz.prog 141 #[.string s] w fun e w' => e = .returned (.int .i64 (strQ s.data.toList)) ∧ w' = w := by
  go_enter Tryz.func141, Tryz.ntmps141
  go_wp2
  go_loop [3] (fun i => ∃ k : Nat, 1 ≤ k ∧ k ≤ s.size + 1 ∧ i = .int .i64 k ∧ Hid (strN (s.data.toList.drop 1) = (strN (s.data.toList.drop k)).map (· + (k - 1)))) (fun i => s.size + 1 - (intOf i).toNat)
  case atStart => exact ⟨1, by omega, by omega, rfl, by show _ = _; simp⟩
  case round =>
    obtain ⟨k, hk1, hk, rfl, HS⟩ := hrel
    by_cases hlt : k < s.size
    · have lt1 : decide ((k : Int) < (s.size : Int)) = true := decide_eq_true (by omega)
      have hdc := drop_cons s k hlt
      by_cases c1 : (s[k].toNat : Int) = 34
      · have d1 : ((s[k].toNat : Int) == 34) = true := by simp [c1]
        have HR : Hid ((strQ s.data.toList : Int) = k + 1) := by
          show _ = _
          unfold strQ
          rw [unhide HS, hdc, strN_q c1]
          simp; omega
        clear c1 hdc
        go_wp2
        go_ret
        exact ⟨by rw [unhide HR]; rfl, rfl⟩
      · have d1 : ((s[k].toNat : Int) == 34) = false := by simp [c1]
        by_cases c2 : (s[k].toNat : Int) = 92
        · have d2 : ((s[k].toNat : Int) == 92) = true := by simp [c2]
          have HS' : Hid (strN (s.data.toList.drop 1) = (strN (s.data.toList.drop (k + 2))).map (· + (k + 2 - 1))) := by
            show _ = _
            by_cases hla : k + 1 < s.size
            · rw [unhide HS, hdc, drop_cons s (k + 1) hla, strN_esc c2, Option.map_map]
              congr 1
              funext x; simp; omega
            · rw [unhide HS, hdc, drop_end s (k + 1) (by omega), strN_last c2, drop_end s (k + 2) (by omega)]
              rfl
          clear c1 c2 hdc
          go_wp2
          go_round
          case rel => exact ⟨k + 2, by omega, by omega, by go_num, HS'⟩
          case measure => simp [intOf]; omega
        · have d2 : ((s[k].toNat : Int) == 92) = false := by simp [c2]
          have HS' : Hid (strN (s.data.toList.drop 1) = (strN (s.data.toList.drop (k + 1))).map (· + (k + 1 - 1))) := by
            show _ = _
            rw [unhide HS, hdc, strN_plain c1 c2, Option.map_map]
            congr 1
            funext x; simp; omega
          clear c1 c2 hdc
          go_wp2
          go_round
          case rel => exact ⟨k + 1, by omega, by omega, by go_num, HS'⟩
          case measure => simp [intOf]; omega
    · have lt1 : decide ((k : Int) < (s.size : Int)) = false := decide_eq_false (by omega)
      have HR : Hid ((strQ s.data.toList : Int) = 0) := by
        show _ = _
        unfold strQ
        rw [unhide HS, drop_end s k (by omega)]
        rfl
      go_wp2
      go_ret
      exact ⟨by rw [unhide HR]; rfl, rfl⟩

theorem digC_byte (c : UInt8) (w : World) : Calls Tryz.prog 177 #[.int .u8 c.toNat] w fun e w' => e = .returned (.bool (digC c)) ∧ w' = w := lexDigit_byte c w
theorem head_dig (r : List UInt8) : headB digC r = decide (0 < (r.takeWhile digC).length) := by
  cases r with
  | nil => rfl
  | cons d r =>
    show digC d = _
    rw [List.takeWhile_cons]
    cases h : digC d <;> simp

set_option maxHeartbeats 2000000 in
set_option maxRecDepth 100000 in
theorem lexNumber_any (s : ByteArray) (w : World) (hs : s.size ≤ 20000) (h0 : 0 < s.size) :
    Calls Tryz.prog 142 #[.string s] w fun e w' => e = .returned (.int .i64 (numN s.data.toList)) ∧ w' = w := by
  have hsz : (s.extract 1 s.size).size ≤ 20000 := by rw [ext_size s h0]; omega
  have i1 : (1 : Int) ≤ s.size := by omega
  have h45 := byte_eqI s[0] 45 (by decide)
  obtain ⟨m, hm⟩ : ∃ m, ((s.extract 1 s.size).data.toList.takeWhile digC).length = m := ⟨_, rfl⟩
  have hmb : m ≤ 20000 := by
    have := List.Sublist.length_le (List.takeWhile_sublist digC (l := (s.extract 1 s.size).data.toList))
    have h2 : (s.extract 1 s.size).data.toList.length = (s.extract 1 s.size).size := by simp
    omega
  have HN : Hid (numN s.data.toList = if (digC s[0] || (s[0] == 45 && decide (0 < m))) = true then 1 + m else 0) := by
    show _ = _
    rw [list_cons s h0, numN_cons, head_dig, hm]
  have HM := hide hm
  clear hm
  cases c1 : digC s[0]
  · cases c2 : ((s[0].toNat : Int) == 45)
    · have HR : Hid ((numN s.data.toList : Int) = 0) := by
        show _ = _
        rw [unhide HN, c1, show (s[0] == 45) = _ from h45.symm]
        show ((if ((false || (((s[0].toNat : Int) == 45) && decide (0 < m))) = true) then 1 + m else 0 : Nat) : Int) = 0
        rw [c2]; rfl
      clear h45
      go_enter Tryz.func142, Tryz.ntmps142
      go_wp2_with (first | (go_at_call 135; refine (span47 _ _ hsz).mono ?_; rintro e w' ⟨rfl, rfl⟩; rw [unhide HM]) | (go_at_call 177; refine (digC_byte _ _).mono ?_; rintro e w' ⟨rfl, rfl⟩))
      go_ret
      exact ⟨by rw [unhide HR]; rfl, rfl⟩
    · by_cases hm0 : 0 < m
      · have HR : Hid ((numN s.data.toList : Int) = 1 + m) := by
          show _ = _
          rw [unhide HN, c1, show (s[0] == 45) = _ from h45.symm]
          show ((if ((false || (((s[0].toNat : Int) == 45) && decide (0 < m))) = true) then 1 + m else 0 : Nat) : Int) = 1 + m
          rw [c2, decide_eq_true hm0]; simp
        have t1 : decide (0 < (m : Int)) = true := decide_eq_true (by omega)
        clear h45
        go_enter Tryz.func142, Tryz.ntmps142
        go_wp2_with (first | (go_at_call 135; refine (span47 _ _ hsz).mono ?_; rintro e w' ⟨rfl, rfl⟩; rw [unhide HM]) | (go_at_call 177; refine (digC_byte _ _).mono ?_; rintro e w' ⟨rfl, rfl⟩))
        go_ret
        exact ⟨by rw [unhide HR]; rfl, rfl⟩
      · have HR : Hid ((numN s.data.toList : Int) = 0) := by
          show _ = _
          rw [unhide HN, c1, decide_eq_false hm0]; simp
        have t1 : decide (0 < (m : Int)) = false := decide_eq_false (by omega)
        clear h45
        go_enter Tryz.func142, Tryz.ntmps142
        go_wp2_with (first | (go_at_call 135; refine (span47 _ _ hsz).mono ?_; rintro e w' ⟨rfl, rfl⟩; rw [unhide HM]) | (go_at_call 177; refine (digC_byte _ _).mono ?_; rintro e w' ⟨rfl, rfl⟩))
        go_ret
        exact ⟨by rw [unhide HR]; rfl, rfl⟩
  · have HR : Hid ((numN s.data.toList : Int) = 1 + m) := by
      show _ = _
      rw [unhide HN, c1]; simp
    clear h45
    go_enter Tryz.func142, Tryz.ntmps142
    go_wp2_with (first | (go_at_call 135; refine (span47 _ _ hsz).mono ?_; rintro e w' ⟨rfl, rfl⟩; rw [unhide HM]) | (go_at_call 177; refine (digC_byte _ _).mono ?_; rintro e w' ⟨rfl, rfl⟩))
    go_ret
    exact ⟨by rw [unhide HR]; rfl, rfl⟩
end Go.Proofs.YtcjnhhbcleljmaaGreatDoor
namespace Go.Proofs.YtcjnhhbcleljmaaGreatDoor
open Go.RowKit
open V

namespace V
theorem pre_cons (c : UInt8) (r : List UInt8) (a b : UInt8) : Lib.hasPrefix (c :: r) [a, b] = (a == c && headB (· == b) r) := by
  cases r with
  | nil => simp [Lib.hasPrefix, headB, List.isPrefixOf]
  | cons d r => simp [Lib.hasPrefix, headB, List.isPrefixOf, Bool.beq_comm]
theorem two_head (c : UInt8) (r : List UInt8) : headB (twoB c) r = (Lib.hasPrefix (c :: r) [33, 61] || Lib.hasPrefix (c :: r) [60, 61] || Lib.hasPrefix (c :: r) [45, 62] || Lib.hasPrefix (c :: r) [61, 62]) := by
  simp only [pre_cons]
  cases r with
  | nil => simp [headB]
  | cons d r =>
    simp only [headB, twoB]
    rw [Bool.beq_comm (a := (33 : UInt8)), Bool.beq_comm (a := (60 : UInt8)), Bool.beq_comm (a := (45 : UInt8)), Bool.beq_comm (a := (61 : UInt8)) (b := c)]
theorem index_of (l : List UInt8) (c : UInt8) : (0 ≤ Lib.indexByte l c) ↔ l.contains c = true := by
  induction l with
  | nil => simp [Lib.indexByte]
  | cons a l ih =>
    have hge := Lib.indexByte_ge l c
    rw [Lib.indexByte]
    by_cases h : (a == c) = true
    · rw [if_pos h]
      have : a = c := by simpa using h
      subst this
      simp
    · rw [if_neg h]
      have h' : ¬ c = a := by intro e; subst e; simp at h
      rw [show (a :: l).contains c = l.contains c by simp [h'], ← ih]
      by_cases h2 : (Lib.indexByte l c == -1) = true
      · rw [if_pos h2]
        have : Lib.indexByte l c = -1 := by simpa using h2
        omega
      · rw [if_neg h2]
        have : ¬ Lib.indexByte l c = -1 := by simpa using h2
        omega
end V

theorem pre_any (s p : ByteArray) (b : Bool) (w : World) (H : Hid (Lib.hasPrefix s.data.toList p.data.toList = b)) :
    Calls Tryz.prog 178 #[.string s, .string p] w fun e w' => e = .returned (.bool b) ∧ w' = w := by
  rw [← unhide H]; exact Tryz.strings_HasPrefix s p w
theorem idx_any (c : UInt8) (i : Int) (w : World) (H : Hid (Lib.indexByte [40, 41, 91, 93, 44, 46, 58, 47, 43, 42, 45, 61, 60] c = i)) :
    Calls Tryz.prog 179 #[.string ⟨#[40, 41, 91, 93, 44, 46, 58, 47, 43, 42, 45, 61, 60]⟩, .int .u8 c.toNat] w fun e w' => e = .returned (.int .i64 i) ∧ w' = w := by
  refine (Tryz.strings_IndexByte _ _ w).mono ?_
  rintro e w' ⟨rfl, rfl⟩
  rw [← unhide H]
  refine ⟨?_, rfl⟩
  have : (((c.toNat : Int)).toNat.toUInt8) = c := by simp
  rw [this]

theorem pair0 (w : World) : (Instr.index 219 (Value.agg #[Value.string ⟨#[33, 61]⟩, Value.string ⟨#[60, 61]⟩, Value.string ⟨#[45, 62]⟩, Value.string ⟨#[61, 62]⟩]) (.int .i64 0)).run Tryz.prog w = .ok (Value.string ⟨#[33, 61]⟩) w := by kernel_rfl
theorem pair1 (w : World) : (Instr.index 219 (Value.agg #[Value.string ⟨#[33, 61]⟩, Value.string ⟨#[60, 61]⟩, Value.string ⟨#[45, 62]⟩, Value.string ⟨#[61, 62]⟩]) (.int .i64 1)).run Tryz.prog w = .ok (Value.string ⟨#[60, 61]⟩) w := by kernel_rfl
theorem pair2 (w : World) : (Instr.index 219 (Value.agg #[Value.string ⟨#[33, 61]⟩, Value.string ⟨#[60, 61]⟩, Value.string ⟨#[45, 62]⟩, Value.string ⟨#[61, 62]⟩]) (.int .i64 2)).run Tryz.prog w = .ok (Value.string ⟨#[45, 62]⟩) w := by kernel_rfl
theorem pair3 (w : World) : (Instr.index 219 (Value.agg #[Value.string ⟨#[33, 61]⟩, Value.string ⟨#[60, 61]⟩, Value.string ⟨#[45, 62]⟩, Value.string ⟨#[61, 62]⟩]) (.int .i64 3)).run Tryz.prog w = .ok (Value.string ⟨#[61, 62]⟩) w := by kernel_rfl
set_option maxHeartbeats 2000000 in
set_option maxRecDepth 100000 in
theorem mark_any (s : ByteArray) (w : World) (_hs : s.size ≤ 20000) (h0 : 0 < s.size) :
    Calls Tryz.prog 143 #[.string s] w fun e w' => e = .returned (.int .i64 (markN s.data.toList)) ∧ w' = w := by
  obtain ⟨b0, H0⟩ : ∃ b0, Hid (Lib.hasPrefix s.data.toList (⟨#[33, 61]⟩ : ByteArray).data.toList = b0) := ⟨_, hide rfl⟩
  obtain ⟨b1, H1⟩ : ∃ b0, Hid (Lib.hasPrefix s.data.toList (⟨#[60, 61]⟩ : ByteArray).data.toList = b0) := ⟨_, hide rfl⟩
  obtain ⟨b2, H2⟩ : ∃ b0, Hid (Lib.hasPrefix s.data.toList (⟨#[45, 62]⟩ : ByteArray).data.toList = b0) := ⟨_, hide rfl⟩
  obtain ⟨b3, H3⟩ : ∃ b0, Hid (Lib.hasPrefix s.data.toList (⟨#[61, 62]⟩ : ByteArray).data.toList = b0) := ⟨_, hide rfl⟩
  obtain ⟨i, HI⟩ : ∃ i, Hid (Lib.indexByte [40, 41, 91, 93, 44, 46, 58, 47, 43, 42, 45, 61, 60] s[0] = i) := ⟨_, hide rfl⟩
  have hi0 : -1 ≤ i := by rw [← unhide HI]; exact Lib.indexByte_ge _ _
  have HM : Hid ((markN s.data.toList : Int) = if (b0 || b1 || b2 || b3) = true then 2 else if 0 ≤ i then 1 else 0) := by
    show _ = _
    rw [← unhide H0, ← unhide H1, ← unhide H2, ← unhide H3, ← unhide HI]
    rw [list_cons s h0, markN_cons, two_head]
    by_cases hh : (Lib.hasPrefix (s[0] :: (s.extract 1 s.size).data.toList) [33, 61] || Lib.hasPrefix (s[0] :: (s.extract 1 s.size).data.toList) [60, 61] || Lib.hasPrefix (s[0] :: (s.extract 1 s.size).data.toList) [45, 62] || Lib.hasPrefix (s[0] :: (s.extract 1 s.size).data.toList) [61, 62]) = true
    · rw [if_pos hh, if_pos hh]; rfl
    · rw [if_neg hh, if_neg hh]
      by_cases hc : singB s[0] = true
      · rw [if_pos hc, if_pos ((index_of _ _).2 hc)]; rfl
      · rw [if_neg hc, if_neg (fun h => hc ((index_of _ _).1 h))]; rfl
  go_enter Tryz.func143, Tryz.ntmps143
  go_wp2
  go_loop [6] (fun c => ∃ k : Nat, k ≤ 4 ∧ c = .int .i64 k ∧ Hid ((1 ≤ k → b0 = false) ∧ (2 ≤ k → b1 = false) ∧ (3 ≤ k → b2 = false) ∧ (4 ≤ k → b3 = false))) (fun c => 4 - (intOf c).toNat)
  case atStart => exact ⟨0, by omega, rfl, hide ⟨by omega, by omega, by omega, by omega⟩⟩
  case round =>
    obtain ⟨k, hk, rfl, HB⟩ := hrel
    rcases (show k = 0 ∨ k = 1 ∨ k = 2 ∨ k = 3 ∨ k = 4 by omega) with rfl | rfl | rfl | rfl | rfl
    · clear H1 H2 H3
      cases b0
      · go_wp2_with fail
        rw [pair0]
        simp only [Result.andThen]
        rw [Oper.upon_value]
        go_wp2_with (go_at_call 178; refine (pre_any _ _ _ _ H0).mono ?_; rintro e w' ⟨rfl, rfl⟩)
        go_round
        case rel => exact ⟨1, by omega, by go_num, hide ⟨by simp, by omega, by omega, by omega⟩⟩
        case measure => simp [intOf]
      · go_wp2_with fail
        rw [pair0]
        simp only [Result.andThen]
        rw [Oper.upon_value]
        go_wp2_with (go_at_call 178; refine (pre_any _ _ _ _ H0).mono ?_; rintro e w' ⟨rfl, rfl⟩)
        go_ret
        exact ⟨by rw [unhide HM]; rfl, rfl⟩
    · obtain ⟨x0, -, -, -⟩ := unhide HB
      have x0 := x0 (by omega)
      subst x0
      clear H0 H2 H3
      cases b1
      · go_wp2_with fail
        rw [pair1]
        simp only [Result.andThen]
        rw [Oper.upon_value]
        go_wp2_with (go_at_call 178; refine (pre_any _ _ _ _ H1).mono ?_; rintro e w' ⟨rfl, rfl⟩)
        go_round
        case rel => exact ⟨2, by omega, by go_num, hide ⟨by simp, by simp, by omega, by omega⟩⟩
        case measure => simp [intOf]
      · go_wp2_with fail
        rw [pair1]
        simp only [Result.andThen]
        rw [Oper.upon_value]
        go_wp2_with (go_at_call 178; refine (pre_any _ _ _ _ H1).mono ?_; rintro e w' ⟨rfl, rfl⟩)
        go_ret
        exact ⟨by rw [unhide HM]; rfl, rfl⟩
    · obtain ⟨x0, x1, -, -⟩ := unhide HB
      have x0 := x0 (by omega)
      have x1 := x1 (by omega)
      subst x0 x1
      clear H0 H1 H3
      cases b2
      · go_wp2_with fail
        rw [pair2]
        simp only [Result.andThen]
        rw [Oper.upon_value]
        go_wp2_with (go_at_call 178; refine (pre_any _ _ _ _ H2).mono ?_; rintro e w' ⟨rfl, rfl⟩)
        go_round
        case rel => exact ⟨3, by omega, by go_num, hide ⟨by simp, by simp, by simp, by omega⟩⟩
        case measure => simp [intOf]
      · go_wp2_with fail
        rw [pair2]
        simp only [Result.andThen]
        rw [Oper.upon_value]
        go_wp2_with (go_at_call 178; refine (pre_any _ _ _ _ H2).mono ?_; rintro e w' ⟨rfl, rfl⟩)
        go_ret
        exact ⟨by rw [unhide HM]; rfl, rfl⟩
    · obtain ⟨x0, x1, x2, -⟩ := unhide HB
      have x0 := x0 (by omega)
      have x1 := x1 (by omega)
      have x2 := x2 (by omega)
      subst x0 x1 x2
      clear H0 H1 H2
      cases b3
      · go_wp2_with fail
        rw [pair3]
        simp only [Result.andThen]
        rw [Oper.upon_value]
        go_wp2_with (go_at_call 178; refine (pre_any _ _ _ _ H3).mono ?_; rintro e w' ⟨rfl, rfl⟩)
        go_round
        case rel => exact ⟨4, by omega, by go_num, hide ⟨by simp, by simp, by simp, by simp⟩⟩
        case measure => simp [intOf]
      · go_wp2_with fail
        rw [pair3]
        simp only [Result.andThen]
        rw [Oper.upon_value]
        go_wp2_with (go_at_call 178; refine (pre_any _ _ _ _ H3).mono ?_; rintro e w' ⟨rfl, rfl⟩)
        go_ret
        exact ⟨by rw [unhide HM]; rfl, rfl⟩
    · obtain ⟨x0, x1, x2, x3⟩ := unhide HB
      have x0 := x0 (by omega)
      have x1 := x1 (by omega)
      have x2 := x2 (by omega)
      have x3 := x3 (by omega)
      subst x0 x1 x2 x3
      clear H0 H1 H2 H3
      by_cases hi : 0 ≤ i
      · have t1 : decide (0 ≤ i) = true := decide_eq_true hi
        have HR : Hid ((markN s.data.toList : Int) = 1) := by
          show _ = _
          rw [unhide HM, if_neg (by decide), if_pos hi]
        clear HM hi
        go_wp2_with (go_at_call 179; refine (idx_any _ _ _ HI).mono ?_; rintro e w' ⟨rfl, rfl⟩)
        go_ret
        exact ⟨by rw [unhide HR]; rfl, rfl⟩
      · have t1 : decide (0 ≤ i) = false := decide_eq_false hi
        have HR : Hid ((markN s.data.toList : Int) = 0) := by
          show _ = _
          rw [unhide HM, if_neg (by decide), if_neg hi]
        clear HM hi
        go_wp2_with (go_at_call 179; refine (idx_any _ _ _ HI).mono ?_; rintro e w' ⟨rfl, rfl⟩)
        go_ret
        exact ⟨by rw [unhide HR]; rfl, rfl⟩

theorem ret_two {a b c d : Int} (h : a = c) (h' : b = d) : Ending.returned (.tuple #[.int .i64 a, .int .i64 b]) = .returned (.tuple #[.int .i64 c, .int .i64 d]) := by rw [h, h']
set_option maxHeartbeats 2000000 in
set_option maxRecDepth 100000 in
theorem sign_any (s : ByteArray) (w : World) (hs : s.size ≤ 20000) (h0 : 0 < s.size) :
    Calls Tryz.prog 87 #[.string s] w fun e w' => e = .returned (.tuple #[.int .i64 (signP s.data.toList).1, .int .i64 (signP s.data.toList).2]) ∧ w' = w := by
  have HC := hide (signP_cons s[0] (s.extract 1 s.size).data.toList)
  rw [← list_cons s h0] at HC
  have h34 := byte_eqI s[0] 34 (by decide)
  cases c1 : lowB s[0].toNat
  · cases c2 : upB s[0].toNat
    · cases c3 : ((s[0].toNat : Int) == 34)
      · have hne : ¬ s[0] = 34 := by
          intro e
          rw [e] at c3
          exact absurd c3 (by decide)
        by_cases hn : 0 < numN s.data.toList
        · have HR : Hid (signP s.data.toList = (3, numN s.data.toList)) := by
            show _ = _
            rw [unhide HC, c1, c2, if_neg (by decide), if_neg (by decide), if_neg hne, if_pos hn]
          have t1 : decide (0 < (numN s.data.toList : Int)) = true := decide_eq_true (by omega)
          clear h34 hne
          go_enter Tryz.func87, Tryz.ntmps87
          go_wp2_with (first | (go_at_call 138; refine (lexLower_byte _ _).mono ?_; rintro e w' ⟨rfl, rfl⟩) | (go_at_call 140; refine (lexUpper_byte _ _).mono ?_; rintro e w' ⟨rfl, rfl⟩) | (go_at_call 142; refine (lexNumber_any _ _ hs h0).mono ?_; rintro e w' ⟨rfl, rfl⟩))
          go_ret2
          exact ⟨ret_two (by rw [unhide HR]) (by rw [unhide HR]), rfl⟩
        · have HR : Hid (signP s.data.toList = (5, markN s.data.toList)) := by
            show _ = _
            rw [unhide HC, c1, c2, if_neg (by decide), if_neg (by decide), if_neg hne, if_neg hn]
          have t1 : decide (0 < (numN s.data.toList : Int)) = false := decide_eq_false (by omega)
          clear h34 hne
          go_enter Tryz.func87, Tryz.ntmps87
          go_wp2_with (first | (go_at_call 138; refine (lexLower_byte _ _).mono ?_; rintro e w' ⟨rfl, rfl⟩) | (go_at_call 140; refine (lexUpper_byte _ _).mono ?_; rintro e w' ⟨rfl, rfl⟩) | (go_at_call 142; refine (lexNumber_any _ _ hs h0).mono ?_; rintro e w' ⟨rfl, rfl⟩) | (go_at_call 143; refine (mark_any _ _ hs h0).mono ?_; rintro e w' ⟨rfl, rfl⟩))
          go_ret2
          exact ⟨ret_two (by rw [unhide HR]) (by rw [unhide HR]), rfl⟩
      · have he : s[0] = 34 := by
          have : s[0].toNat = 34 := by have := (beq_iff_eq.1 c3); omega
          exact UInt8.toNat_inj.1 this
        have HR : Hid (signP s.data.toList = (4, strQ s.data.toList)) := by
          show _ = _
          rw [unhide HC, c1, c2, if_neg (by decide), if_neg (by decide), if_pos he]
        clear h34 he
        go_enter Tryz.func87, Tryz.ntmps87
        go_wp2_with (first | (go_at_call 138; refine (lexLower_byte _ _).mono ?_; rintro e w' ⟨rfl, rfl⟩) | (go_at_call 140; refine (lexUpper_byte _ _).mono ?_; rintro e w' ⟨rfl, rfl⟩) | (go_at_call 141; refine (quotes_any _ _ hs h0).mono ?_; rintro e w' ⟨rfl, rfl⟩))
        go_ret2
        exact ⟨ret_two (by rw [unhide HR]) (by rw [unhide HR]), rfl⟩
    · have HR : Hid (signP s.data.toList = (2, (s.data.toList.takeWhile innB).length)) := by
        show _ = _
        rw [unhide HC, c1, c2, if_neg (by decide), if_pos rfl]
      clear h34
      go_enter Tryz.func87, Tryz.ntmps87
      go_wp2_with (first | (go_at_call 138; refine (lexLower_byte _ _).mono ?_; rintro e w' ⟨rfl, rfl⟩) | (go_at_call 140; refine (lexUpper_byte _ _).mono ?_; rintro e w' ⟨rfl, rfl⟩) | (go_at_call 135; refine (span28 _ _ hs).mono ?_; rintro e w' ⟨rfl, rfl⟩))
      go_ret2
      exact ⟨ret_two (by rw [unhide HR]) (by rw [unhide HR]), rfl⟩
  · have HR : Hid (signP s.data.toList = (1, (s.data.toList.takeWhile innB).length)) := by
      show _ = _
      rw [unhide HC, c1, if_pos rfl]
    clear h34
    go_enter Tryz.func87, Tryz.ntmps87
    go_wp2_with (first | (go_at_call 138; refine (lexLower_byte _ _).mono ?_; rintro e w' ⟨rfl, rfl⟩) | (go_at_call 135; refine (span28 _ _ hs).mono ?_; rintro e w' ⟨rfl, rfl⟩))
    go_ret2
    exact ⟨ret_two (by rw [unhide HR]) (by rw [unhide HR]), rfl⟩
end Go.Proofs.YtcjnhhbcleljmaaGreatDoor

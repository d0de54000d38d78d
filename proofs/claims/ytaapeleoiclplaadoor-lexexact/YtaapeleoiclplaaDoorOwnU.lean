/- What the document's own functions Number and Quoted return. -/
import Derived.Test.YtaapeleoiclplaaDoorOwnS
import Derived.Test.YtaapeleoiclplaaDoorLexT
namespace Go.Proofs.YtaapeleoiclplaaDoor
open Go.RowKit
open V

/-- What Number may answer. -/
def NumRes (l : List UInt8) (e : Ending) : Prop := ∃ x b, e = .returned (.tuple #[.int .i64 x, .bool b]) ∧ (b = true → numGo l = some x) ∧ (b = false → numGo l = none)

set_option maxHeartbeats 2000000 in
set_option maxRecDepth 20000 in
theorem number_loop (s : ByteArray) (w : World) (hs : s.size ≤ 20000) (h0 : 0 < s.size) (h45 : ((s[0].toNat : Int) == 45) = false)
    (HG : Hid (numGo s.data.toList = numRest false s.data.toList)) :
    Calls Tryd.prog 44 #[.string s] w fun e w' => NumRes s.data.toList e ∧ w' = w := by
  have t1 : decide (0 < (s.size : Int)) = true := decide_eq_true (by omega)
  have t2 : ((s.size : Int) == 0) = false := by rw [beq_eq_false_iff_ne]; omega
  go_enter Tryd.func44, Tryd.ntmps44
  go_wp2
  go_loop [5, 6, 7, 8] (fun n o i _ => ∃ (k : Nat) (a : Int) (b : Bool), k ≤ s.size ∧ n = .int .i64 a ∧ o = .bool b ∧ i = .int .i64 k ∧ 0 ≤ a ∧ a ≤ 4611686018427387904 ∧ Hid (numFold (s.data.toList.take k) = (a, b)) ∧ Hid ((s.data.toList.take k).all isD = true)) (fun _ _ i _ => s.size - (intOf i).toNat)
  case atStart => exact ⟨0, 0, false, by omega, rfl, rfl, rfl, by omega, by omega, by rfl, by rfl⟩
  case round =>
    obtain ⟨k, a, b, hk, rfl, rfl, rfl, ha0, ha1, HF, HA⟩ := hrel
    by_cases hlt : k < s.size
    · cases hd : digB s[k].toNat
      · have HR : Hid (numGo s.data.toList = none) := by
          show _ = _
          rw [unhide HG]
          unfold numRest
          have : s.data.toList.all isD = false := all_take_get s k hlt hd
          rw [this]; simp
        go_wp2_with (go_at_call 41; refine (refDigit_byte _ _).mono ?_; rintro e w' ⟨rfl, hw⟩; subst hw)
        go_ret2
        exact ⟨⟨0, false, rfl, fun h => (by cases h), fun _ => unhide HR⟩, rfl⟩
      · have hdd : 48 ≤ (s[k].toNat : Int) ∧ (s[k].toNat : Int) ≤ 57 := by simpa [digB] using hd
        obtain ⟨d0, d1⟩ := hdd
        have HA' : Hid ((s.data.toList.take (k + 1)).all isD = true) := by
          show _ = _
          rw [take_snoc s k hlt, List.all_append, unhide HA]; simp [isD, hd]
        cases b
        · by_cases ho : (4611686018427387904 - ((s[k].toNat : Int) - 48)) / 10 < a
          · have o1 : decide ((4611686018427387904 - ((s[k].toNat : Int) - 48)) / 10 < a) = true := decide_eq_true ho
            have HF' : Hid (numFold (s.data.toList.take (k + 1)) = (a, true)) := by
              show _ = _
              rw [take_snoc s k hlt, numFold_snoc, unhide HF]
              simp only [numStep]
              rw [if_pos (Or.inr ho)]
            clear ho
            go_wp2_with (go_at_call 41; refine (refDigit_byte _ _).mono ?_; rintro e w' ⟨rfl, hw⟩; subst hw)
            exact ⟨⟨k + 1, a, true, by omega, rfl, rfl, by go_num, ha0, ha1, HF', HA'⟩, by simp [intOf]; omega⟩
          · have o1 : decide ((4611686018427387904 - ((s[k].toNat : Int) - 48)) / 10 < a) = false := decide_eq_false ho
            have h10 : 10 * a + ((s[k].toNat : Int) - 48) ≤ 4611686018427387904 := by omega
            have h11 : 10 * a ≤ 4611686018427387904 := by omega
            have HF' : Hid (numFold (s.data.toList.take (k + 1)) = (10 * a + ((s[k].toNat : Int) - 48), false)) := by
              show _ = _
              rw [take_snoc s k hlt, numFold_snoc, unhide HF]
              simp only [numStep]
              rw [if_neg (by simp only [Bool.false_eq_true, false_or]; exact ho)]
            clear ho
            go_wp2_with (go_at_call 41; refine (refDigit_byte _ _).mono ?_; rintro e w' ⟨rfl, hw⟩; subst hw)
            exact ⟨⟨k + 1, _, false, by omega, rfl, rfl, by go_num, by omega, h10, HF', HA'⟩, by simp [intOf]; omega⟩
        · have HF' : Hid (numFold (s.data.toList.take (k + 1)) = (a, true)) := by
            show _ = _
            rw [take_snoc s k hlt, numFold_snoc, unhide HF]
            simp only [numStep]
            rw [if_pos (Or.inl trivial)]
          go_wp2_with (go_at_call 41; refine (refDigit_byte _ _).mono ?_; rintro e w' ⟨rfl, hw⟩; subst hw)
          exact ⟨⟨k + 1, a, true, by omega, rfl, rfl, by go_num, ha0, ha1, HF', HA'⟩, by simp [intOf]; omega⟩
    · have hne : s.data.toList ≠ [] := by
        intro h
        have hl : s.data.toList.length = s.size := by simp
        rw [h] at hl; simp at hl; omega
      have HR : Hid (numGo s.data.toList = if b = true then none else some a) := by
        show _ = _
        have hf := unhide HF
        have hal := unhide HA
        rw [take_all s k (by omega)] at hf hal
        rw [unhide HG]
        unfold numRest
        rw [if_neg hne, if_pos hal, hf]; simp
      cases b
      · go_wp2
        go_ret2
        exact ⟨⟨a, true, rfl, fun _ => by rw [unhide HR]; rfl, fun h => (by cases h)⟩, rfl⟩
      · go_wp2
        go_ret2
        exact ⟨⟨0, false, rfl, fun h => (by cases h), fun _ => by rw [unhide HR]; rfl⟩, rfl⟩

theorem rest_of (s : ByteArray) (h0 : 0 < s.size) : s.data.toList = s[0] :: (s.extract 1 s.size).data.toList := by
  have h := drop_cons s 0 h0
  rw [List.drop_zero] at h
  rw [h, Lib.extract_data]
  congr 1
  rw [List.take_of_length_le (by simp)]
theorem numGo_neg (s : ByteArray) (h0 : 0 < s.size) (h45 : ((s[0].toNat : Int) == 45) = true) : numGo s.data.toList = numRest true (s.extract 1 s.size).data.toList := by
  rw [rest_of s h0]
  rw [beq_iff_eq] at h45
  simp only [numGo]
  rw [if_pos (by omega)]
theorem numGo_pos (s : ByteArray) (h0 : 0 < s.size) (h45 : ((s[0].toNat : Int) == 45) = false) : numGo s.data.toList = numRest false s.data.toList := by
  rw [rest_of s h0]
  rw [beq_eq_false_iff_ne] at h45
  simp only [numGo]
  rw [if_neg (by omega)]

set_option maxHeartbeats 2000000 in
set_option maxRecDepth 20000 in
theorem number_neg (s : ByteArray) (w : World) (hs : s.size ≤ 20000) (h0 : 0 < s.size) (h45 : ((s[0].toNat : Int) == 45) = true) :
    Calls Tryd.prog 44 #[.string s] w fun e w' => NumRes s.data.toList e ∧ w' = w := by
  have t1 : decide (0 < (s.size : Int)) = true := decide_eq_true (by omega)
  have HG0 := hide (numGo_neg s h0 h45)
  by_cases h1 : s.size = 1
  · have HR : Hid (numGo s.data.toList = none) := by
      show _ = _
      rw [unhide HG0]
      have : (s.extract 1 s.size).data.toList = [] := by rw [Lib.extract_data, h1]; simp
      rw [this]; rfl
    have t2 : (((s.size - 1 : Nat) : Int) == 0) = true := by rw [beq_iff_eq]; omega
    have i1 : (1 : Int) ≤ s.size := by omega
    clear h1
    go_enter Tryd.func44, Tryd.ntmps44
    go_wp2
    go_ret2
    exact ⟨⟨0, false, rfl, fun h => (by cases h), fun _ => unhide HR⟩, rfl⟩
  · have hms : (s.extract 1 s.size).size = s.size - 1 := by
      rw [ByteArray.size_extract]; omega
    have t2 : (((s.size - 1 : Nat) : Int) == 0) = false := by rw [beq_eq_false_iff_ne]; omega
    have i1 : (1 : Int) ≤ s.size := by omega
    go_enter Tryd.func44, Tryd.ntmps44
    go_wp2
    generalize (s.extract 1 s.size) = m at hms HG0 ⊢
    have HG := HG0
    have hm1 : m.size ≤ 20000 := by omega
    have hm0 : 0 < m.size := by omega
    have HM := hide hms
    clear hms h1
    go_loop [5, 6, 7, 8] (fun n o i _ => ∃ (k : Nat) (a : Int) (b : Bool), k ≤ m.size ∧ n = .int .i64 a ∧ o = .bool b ∧ i = .int .i64 k ∧ 0 ≤ a ∧ a ≤ 4611686018427387904 ∧ Hid (numFold (m.data.toList.take k) = (a, b)) ∧ Hid ((m.data.toList.take k).all isD = true)) (fun _ _ i _ => m.size - (intOf i).toNat)
    case atStart => exact ⟨0, 0, false, by omega, rfl, rfl, rfl, by omega, by omega, by rfl, by rfl⟩
    case round =>
      obtain ⟨k, a, b, hk, rfl, rfl, rfl, ha0, ha1, HF, HA⟩ := hrel
      by_cases hlt : k < m.size
      · cases hd : digB m[k].toNat
        · have HR : Hid (numGo s.data.toList = none) := by
            show _ = _
            rw [unhide HG]
            unfold numRest
            have : m.data.toList.all isD = false := all_take_get m k hlt hd
            rw [this]; simp
          go_wp2_with (go_at_call 41; refine (refDigit_byte _ _).mono ?_; rintro e w' ⟨rfl, hw⟩; subst hw)
          go_ret2
          exact ⟨⟨0, false, rfl, fun h => (by cases h), fun _ => unhide HR⟩, rfl⟩
        · have hdd : 48 ≤ (m[k].toNat : Int) ∧ (m[k].toNat : Int) ≤ 57 := by simpa [digB] using hd
          obtain ⟨d0, d1⟩ := hdd
          have HA' : Hid ((m.data.toList.take (k + 1)).all isD = true) := by
            show _ = _
            rw [take_snoc m k hlt, List.all_append, unhide HA]; simp [isD, hd]
          cases b
          · by_cases ho : (4611686018427387904 - ((m[k].toNat : Int) - 48)) / 10 < a
            · have o1 : decide ((4611686018427387904 - ((m[k].toNat : Int) - 48)) / 10 < a) = true := decide_eq_true ho
              have HF' : Hid (numFold (m.data.toList.take (k + 1)) = (a, true)) := by
                show _ = _
                rw [take_snoc m k hlt, numFold_snoc, unhide HF]
                simp only [numStep]
                rw [if_pos (Or.inr ho)]
              clear ho
              go_wp2_with (go_at_call 41; refine (refDigit_byte _ _).mono ?_; rintro e w' ⟨rfl, hw⟩; subst hw)
              exact ⟨⟨k + 1, a, true, by omega, rfl, rfl, by go_num, ha0, ha1, HF', HA'⟩, by simp [intOf]; omega⟩
            · have o1 : decide ((4611686018427387904 - ((m[k].toNat : Int) - 48)) / 10 < a) = false := decide_eq_false ho
              have h10 : 10 * a + ((m[k].toNat : Int) - 48) ≤ 4611686018427387904 := by omega
              have h11 : 10 * a ≤ 4611686018427387904 := by omega
              have HF' : Hid (numFold (m.data.toList.take (k + 1)) = (10 * a + ((m[k].toNat : Int) - 48), false)) := by
                show _ = _
                rw [take_snoc m k hlt, numFold_snoc, unhide HF]
                simp only [numStep]
                rw [if_neg (by simp only [Bool.false_eq_true, false_or]; exact ho)]
              clear ho
              go_wp2_with (go_at_call 41; refine (refDigit_byte _ _).mono ?_; rintro e w' ⟨rfl, hw⟩; subst hw)
              exact ⟨⟨k + 1, _, false, by omega, rfl, rfl, by go_num, by omega, h10, HF', HA'⟩, by simp [intOf]; omega⟩
          · have HF' : Hid (numFold (m.data.toList.take (k + 1)) = (a, true)) := by
              show _ = _
              rw [take_snoc m k hlt, numFold_snoc, unhide HF]
              simp only [numStep]
              rw [if_pos (Or.inl trivial)]
            go_wp2_with (go_at_call 41; refine (refDigit_byte _ _).mono ?_; rintro e w' ⟨rfl, hw⟩; subst hw)
            exact ⟨⟨k + 1, a, true, by omega, rfl, rfl, by go_num, ha0, ha1, HF', HA'⟩, by simp [intOf]; omega⟩
      · have hne : m.data.toList ≠ [] := by
          intro h
          have hl : m.data.toList.length = m.size := by simp
          rw [h] at hl; simp at hl; omega
        have HR : Hid (numGo s.data.toList = if b = true then none else some (-a)) := by
          show _ = _
          have hf := unhide HF
          have hal := unhide HA
          rw [take_all m k (by omega)] at hf hal
          rw [unhide HG]
          unfold numRest
          rw [if_neg hne, if_pos hal, hf]; simp
        cases b
        · go_wp2
          go_ret2
          exact ⟨⟨-a, true, rfl, fun _ => by rw [unhide HR]; rfl, fun h => (by cases h)⟩, rfl⟩
        · go_wp2
          go_ret2
          exact ⟨⟨0, false, rfl, fun h => (by cases h), fun _ => by rw [unhide HR]; rfl⟩, rfl⟩
end Go.Proofs.YtaapeleoiclplaaDoor

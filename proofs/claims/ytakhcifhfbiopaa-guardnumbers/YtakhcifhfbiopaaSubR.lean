/- What the document's Word answers of a variable. -/
import Derived.Test.YtakhcifhfbiopaaOwnS
import Derived.Test.YtakhcifhfbiopaaSubP
namespace Go.Proofs.Ytakhcifhfbiopaa.Sb
open Go.RowKit
open V

theorem varB_of (s : ByteArray) (h0 : 0 < s.size) : varB s.data.toList = (decide (s.size ≤ 24) && (upB s[0].toNat && s.data.toList.all innB)) := by
  have hlen : s.data.toList.length = s.size := by simp
  have h00 : s.data.toList[0]? = some s[0] := get_data s 0 h0
  cases h : s.data.toList with
  | nil => rw [h] at hlen; simp at hlen; omega
  | cons a b =>
    rw [h] at hlen h00
    simp at hlen h00
    simp only [varB, h00, hlen]
theorem varB_none {s : ByteArray} (h : ¬ 0 < s.size) : varB s.data.toList = false := by
  have hlen : s.data.toList.length = s.size := by simp
  have : s.data.toList = [] := List.length_eq_zero_iff.1 (by omega)
  rw [this]; rfl

set_option maxHeartbeats 1000000 in
theorem refWordU_any (s : ByteArray) (w : World) (hs : s.size ≤ maxLen) :
    Calls Try.prog 36 #[.string s, .bool true] w fun e w' => e = .returned (.bool (varB s.data.toList)) ∧ w' = w := by
  unfold maxLen at hs
  cases hin : inB s.size 1 24
  · have HS : Hid (varB s.data.toList = false) := by
      show _ = _
      have hin' : ¬ (1 ≤ (s.size : Int) ∧ (s.size : Int) ≤ 24) := by simpa [inB] using hin
      by_cases h0 : 0 < s.size
      · rw [varB_of s h0]; simp; omega
      · exact varB_none h0
    go_enter Try.func36, Try.ntmps36
    go_wp2_with (go_at_call 30; refine (refIn_any _ _ _ _).mono ?_; rintro e w' ⟨rfl, rfl⟩)
    go_ret
    exact ⟨ret_bool (unhide HS), rfl⟩
  · have hin' : 1 ≤ (s.size : Int) ∧ (s.size : Int) ≤ 24 := by simpa [inB] using hin
    have h0 : 0 < s.size := by omega
    have hl : s.size ≤ 24 := by omega
    have HS := hide (varB_of s h0)
    clear hin'
    cases hup : upB s[0].toNat
    · have HL := hide hup
      go_enter Try.func36, Try.ntmps36
      go_wp2_with (first | (go_at_call 30; refine (refIn_any _ _ _ _).mono ?_; rintro e w' ⟨rfl, rfl⟩) | (go_at_call 50; refine (refUpper_byte _ _).mono ?_; rintro e w' ⟨rfl, rfl⟩))
      go_ret
      exact ⟨ret_bool (by rw [unhide HS, unhide HL]; simp), rfl⟩
    · have HL := hide hup
      go_enter Try.func36, Try.ntmps36
      go_wp2_with (first | (go_at_call 30; refine (refIn_any _ _ _ _).mono ?_; rintro e w' ⟨rfl, rfl⟩) | (go_at_call 50; refine (refUpper_byte _ _).mono ?_; rintro e w' ⟨rfl, rfl⟩))
      go_loop [5] (fun i => ∃ k : Nat, k ≤ s.size ∧ i = .int .i64 k ∧ Hid ((s.data.toList.take k).all innB = true)) (fun i => s.size - (intOf i).toNat)
      case atStart => exact ⟨0, Nat.zero_le _, rfl, by rfl⟩
      case round =>
        obtain ⟨k, hk, rfl, HA⟩ := hrel
        clear hup
        by_cases hlt : k < s.size
        · cases hi : innB s[k]
          · have HI := hide hi
            go_wp2_with (go_at_call 52; refine (refInner_byte _ _).mono ?_; rintro e w' ⟨rfl, rfl⟩)
            go_ret
            exact ⟨ret_bool (by rw [unhide HS, all_take_get s k hlt (unhide HI)]; simp), rfl⟩
          · have HI := hide hi
            go_wp2_with (go_at_call 52; refine (refInner_byte _ _).mono ?_; rintro e w' ⟨rfl, rfl⟩)
            go_round
            case rel => exact ⟨k + 1, by omega, by go_num, by show _ = _; rw [take_snoc s k hlt, List.all_append, unhide HA]; simp [unhide HI]⟩
            case measure => simp [intOf]; omega
        · have hl2 : s.size ≤ 24 := hl
          go_wp2
          go_ret
          exact ⟨ret_bool (by have := unhide HA; rw [take_all s k (by omega)] at this; rw [unhide HS, unhide HL, this]; simp; omega), rfl⟩
end Go.Proofs.Ytakhcifhfbiopaa.Sb

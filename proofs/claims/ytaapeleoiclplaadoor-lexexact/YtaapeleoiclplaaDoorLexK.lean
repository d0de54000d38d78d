/- What the document's own function Right answers. -/
import Derived.Test.YtaapeleoiclplaaDoorLexJ
namespace Go.Proofs.YtaapeleoiclplaaDoor
open Go.RowKit
open V

set_option maxHeartbeats 1000000 in
theorem refWordU_any (s : ByteArray) (w : World) (hs : s.size ≤ maxLen) :
    Calls Tryd.prog 43 #[.string s, .bool true] w fun e w' => e = .returned (.bool (varB s.data.toList)) ∧ w' = w := by
  unfold maxLen at hs
  cases hin : inB s.size 1 24
  · have HS : Hid (varB s.data.toList = false) := by
      show _ = _
      have hin' : ¬ (1 ≤ (s.size : Int) ∧ (s.size : Int) ≤ 24) := by simpa [inB] using hin
      by_cases h0 : 0 < s.size
      · rw [varB_of s h0]; simp; omega
      · exact varB_none h0
    go_enter Tryd.func43, Tryd.ntmps43
    go_wp2_with (go_at_call 55; refine (refIn_any _ _ _ _).mono ?_; rintro e w' ⟨rfl, rfl⟩)
    go_ret
    exact ⟨ret_bool (unhide HS), rfl⟩
  · have hin' : 1 ≤ (s.size : Int) ∧ (s.size : Int) ≤ 24 := by simpa [inB] using hin
    have h0 : 0 < s.size := by omega
    have hl : s.size ≤ 24 := by omega
    have HS := hide (varB_of s h0)
    clear hin'
    cases hup : upB s[0].toNat
    · have HL := hide hup
      go_enter Tryd.func43, Tryd.ntmps43
      go_wp2_with (first | (go_at_call 55; refine (refIn_any _ _ _ _).mono ?_; rintro e w' ⟨rfl, rfl⟩) | (go_at_call 39; refine (refUpper_byte _ _).mono ?_; rintro e w' ⟨rfl, rfl⟩))
      go_ret
      exact ⟨ret_bool (by rw [unhide HS, unhide HL]; simp), rfl⟩
    · have HL := hide hup
      go_enter Tryd.func43, Tryd.ntmps43
      go_wp2_with (first | (go_at_call 55; refine (refIn_any _ _ _ _).mono ?_; rintro e w' ⟨rfl, rfl⟩) | (go_at_call 39; refine (refUpper_byte _ _).mono ?_; rintro e w' ⟨rfl, rfl⟩))
      go_loop [5] (fun i => ∃ k : Nat, k ≤ s.size ∧ i = .int .i64 k ∧ Hid ((s.data.toList.take k).all innB = true)) (fun i => s.size - (intOf i).toNat)
      case atStart => exact ⟨0, Nat.zero_le _, rfl, by rfl⟩
      case round =>
        obtain ⟨k, hk, rfl, HA⟩ := hrel
        clear hup
        by_cases hlt : k < s.size
        · cases hi : innB s[k]
          · have HI := hide hi
            go_wp2_with (go_at_call 56; refine (refInner_byte _ _).mono ?_; rintro e w' ⟨rfl, rfl⟩)
            go_ret
            exact ⟨ret_bool (by rw [unhide HS, all_take_get s k hlt (unhide HI)]; simp), rfl⟩
          · have HI := hide hi
            go_wp2_with (go_at_call 56; refine (refInner_byte _ _).mono ?_; rintro e w' ⟨rfl, rfl⟩)
            go_round
            case rel => exact ⟨k + 1, by omega, by go_num, by show _ = _; rw [take_snoc s k hlt, List.all_append, unhide HA]; simp [unhide HI]⟩
            case measure => simp [intOf]; omega
        · have hl2 : s.size ≤ 24 := hl
          go_wp2
          go_ret
          exact ⟨ret_bool (by have := unhide HA; rw [take_all s k (by omega)] at this; rw [unhide HS, unhide HL, this]; simp; omega), rfl⟩

theorem bytes_ext {a b : ByteArray} (h : a.data.toList = b.data.toList) : a = b := by
  obtain ⟨⟨x⟩⟩ := a
  obtain ⟨⟨y⟩⟩ := b
  simp at h
  rw [h]
/-- What a sign of the last kind may be. -/
def Mark (x : List UInt8) : Prop := (∃ c, x = [c] ∧ singB c = true) ∨ x = [33, 61] ∨ x = [60, 61] ∨ x = [45, 62] ∨ x = [61, 62]
theorem refMark (s : ByteArray) (w : World) (h : Mark s.data.toList) :
    Calls Tryd.prog 20 #[.int .i64 5, .string s] w fun e w' => e = .returned (.bool true) ∧ w' = w := by
  rcases h with ⟨c, hc, hq⟩ | h | h | h | h
  · have hz : s.size = 1 := by rw [← size_list, hc]; rfl
    have h0 : 0 < s.size := by omega
    have e0 : s[0]'h0 = c := by
      have := list_cons s h0
      rw [hc] at this
      exact ((List.cons.inj this).1).symm
    have t1 : ((s.size : Int) == 1) = true := by rw [hz]; rfl
    have hq : singB (s[0]'h0) = true := by rw [e0]; exact hq
    clear hc e0 hz
    go_enter Tryd.func20, Tryd.ntmps20
    go_wp2_with (go_at_call 42; refine (single_any _ _).mono ?_; rintro e w9 ⟨rfl, hw9⟩; subst w9; rw [hq])
    go_ret
    exact ⟨rfl, rfl⟩
  · have : s = ⟨#[33, 61]⟩ := bytes_ext h
    subst this
    clear h
    go_enter Tryd.func20, Tryd.ntmps20
    go_wp2_with fail
    go_ret
    exact ⟨rfl, rfl⟩
  · have : s = ⟨#[60, 61]⟩ := bytes_ext h
    subst this
    clear h
    go_enter Tryd.func20, Tryd.ntmps20
    go_wp2_with fail
    go_ret
    exact ⟨rfl, rfl⟩
  · have : s = ⟨#[45, 62]⟩ := bytes_ext h
    subst this
    clear h
    go_enter Tryd.func20, Tryd.ntmps20
    go_wp2_with fail
    go_ret
    exact ⟨rfl, rfl⟩
  · have : s = ⟨#[61, 62]⟩ := bytes_ext h
    subst this
    clear h
    go_enter Tryd.func20, Tryd.ntmps20
    go_wp2_with fail
    go_ret
    exact ⟨rfl, rfl⟩

set_option maxHeartbeats 2000000 in
theorem refRight_any (k : Int) (s : ByteArray) (b : Bool) (w : World) (hs : s.size ≤ 20000) (hk : Hid (k = 1 ∨ k = 2 ∨ k = 3 ∨ k = 4 ∨ k = 5)) (h5 : Hid (k = 5 → Mark s.data.toList)) (H : Hid (rightK k s.data.toList = b)) :
    Calls Tryd.prog 20 #[.int .i64 k, .string s] w fun e w' => e = .returned (.bool b) ∧ w' = w := by
  have hs' : s.size ≤ maxLen := by unfold maxLen; omega
  rcases unhide hk with rfl | rfl | rfl | rfl | rfl
  · have H' : Hid (b = symB s.data.toList) := hide (by rw [← unhide H]; rfl)
    clear H h5 hk
    go_enter Tryd.func20, Tryd.ntmps20
    go_wp2_with (go_at_call 43; refine (refWord_any _ _ hs').mono ?_; rintro e w9 ⟨rfl, hw9⟩; subst w9)
    go_ret
    exact ⟨ret_bool (unhide H'), rfl⟩
  · have H' : Hid (b = varB s.data.toList) := hide (by rw [← unhide H]; rfl)
    clear H h5 hk
    go_enter Tryd.func20, Tryd.ntmps20
    go_wp2_with (go_at_call 43; refine (refWordU_any _ _ hs').mono ?_; rintro e w9 ⟨rfl, hw9⟩; subst w9)
    go_ret
    exact ⟨ret_bool (unhide H'), rfl⟩
  · have H' : Hid (b = (numGo s.data.toList).isSome) := hide (by rw [← unhide H]; rfl)
    clear H h5 hk
    go_enter Tryd.func20, Tryd.ntmps20
    go_wp2_with fail
    refine (number_any s _ hs).mono ?_
    rintro e w9 ⟨⟨x, q, rfl, ht, hf⟩, hw9⟩
    subst w9
    have HQ : Hid (b = q) := by
      show _ = _
      rw [unhide H']
      cases q with
      | true => rw [ht rfl]; rfl
      | false => rw [hf rfl]; rfl
    clear ht hf
    go_wp2_with fail
    go_ret
    exact ⟨ret_bool (unhide HQ), rfl⟩
  · have H' : Hid (b = (quotedGo s.data.toList).isSome) := hide (by rw [← unhide H]; rfl)
    clear H h5 hk
    go_enter Tryd.func20, Tryd.ntmps20
    go_wp2_with fail
    refine (quoted_any s _ hs).mono ?_
    rintro e w9 ⟨⟨x, q, rfl, ht, hf, hz⟩, hw9⟩
    subst w9
    have HQ : Hid (b = q) := by
      show _ = _
      rw [unhide H']
      cases q with
      | true => rw [ht rfl]; rfl
      | false => rw [hf rfl]; rfl
    clear ht hf
    go_wp2_with fail
    go_ret
    exact ⟨ret_bool (unhide HQ), rfl⟩
  · have hb : b = true := by rw [← unhide H]; rfl
    subst hb
    exact refMark s w (unhide h5 rfl)
end Go.Proofs.YtaapeleoiclplaaDoor

/- What the document's own functions Number, Quoted and ParseValue return. -/
import Derived.Test.YtaapeleoiclplaaDoorOwnU
namespace Go.Proofs.YtaapeleoiclplaaDoor
open Go.RowKit
open V

set_option maxHeartbeats 400000 in
theorem number_any (s : ByteArray) (w : World) (hs : s.size ≤ 20000) :
    Calls Tryd.prog 44 #[.string s] w fun e w' => NumRes s.data.toList e ∧ w' = w := by
  by_cases h0 : 0 < s.size
  · cases h : ((s[0].toNat : Int) == 45)
    · exact number_loop s w hs h0 h (hide (numGo_pos s h0 h))
    · exact number_neg s w hs h0 h
  · have hz : s.size = 0 := by omega
    have HR : Hid (numGo s.data.toList = none) := by
      show _ = _
      have : s.data.toList = [] := List.length_eq_zero_iff.1 (by rw [Array.length_toList]; exact hz)
      rw [this]; rfl
    have t1 : decide (0 < (s.size : Int)) = false := decide_eq_false (by omega)
    have t2 : ((s.size : Int) == 0) = true := by rw [beq_iff_eq]; omega
    clear h0 hz
    go_enter Tryd.func44, Tryd.ntmps44
    go_wp2
    go_ret2
    exact ⟨⟨0, false, rfl, fun h => (by cases h), fun _ => unhide HR⟩, rfl⟩

theorem data_app2 (a b : ByteArray) : (a ++ b).data.toList = a.data.toList ++ b.data.toList := by
  rw [ByteArray.data_append]; simp
theorem size_app2 (a b : ByteArray) : (a ++ b).size = a.size + b.size := ByteArray.size_append
theorem data_one2 (s : ByteArray) (k : Nat) (h : k < s.size) : (s.extract k (k + 1)).data.toList = [s[k]] := by
  rw [Lib.extract_data, List.drop_eq_getElem_cons (by simpa using h), show k + 1 - k = 1 by omega]
  rfl
theorem size_one2 (s : ByteArray) (k : Nat) (h : k < s.size) : (s.extract k (k + 1)).size = 1 := by
  have e : (s.extract k (k + 1)).data.toList.length = (s.extract k (k + 1)).size := by rw [Array.length_toList]; rfl
  rw [← e, data_one2 s k h]; rfl


/-- What Quoted may answer. -/
def QuoRes (l : List UInt8) (e : Ending) : Prop := ∃ (t : ByteArray) (b : Bool), e = .returned (.tuple #[.string t, .bool b]) ∧ (b = true → quotedGo l = some t.data.toList) ∧ (b = false → quotedGo l = none) ∧ t.size ≤ 40000

set_option maxHeartbeats 2000000 in
theorem quoted_loop (s : ByteArray) (w : World) (hs : s.size ≤ 20000) (h2 : 2 ≤ s.size) (h34 : ((s[0].toNat : Int) != 34) = false) (HG : Hid (quotedGo s.data.toList = qScan (s.data.toList.drop 1) [])) :
    Calls Tryd.prog 45 #[.string s] w fun e w' => QuoRes s.data.toList e ∧ w' = w := by
  have t1 : decide ((s.size : Int) < 2) = false := decide_eq_false (by omega)
  go_enter Tryd.func45, Tryd.ntmps45
  go_wp2
  go_loop [4, 5] (fun o i => ∃ (k : Nat) (acc : ByteArray), 1 ≤ k ∧ k ≤ s.size ∧ o = .string acc ∧ i = .int .i64 k ∧ acc.size ≤ k ∧ Hid (quotedGo s.data.toList = qScan (s.data.toList.drop k) acc.data.toList)) (fun _ i => s.size - (intOf i).toNat)
  case atStart => exact ⟨1, ⟨#[]⟩, by omega, by omega, rfl, rfl, by decide, HG⟩
  case round =>
    obtain ⟨k, acc, hk1, hk, rfl, rfl, hac, HQ⟩ := hrel
    have hacl : acc.data.toList.length = acc.size := by rw [Array.length_toList]; rfl
    by_cases hlt : k < s.size
    · have hdc := drop_cons s k hlt
      have hse := size_one2 s k hlt
      have hda := data_one2 s k hlt
      by_cases c1 : (s[k].toNat : Int) = 34
      · have d1 : ((s[k].toNat : Int) == 34) = true := by simp [c1]
        by_cases hla : k = s.size - 1
        · have l1 : ((k : Int) == (s.size : Int) - 1) = true := by rw [beq_iff_eq]; omega
          by_cases h60 : acc.size ≤ 60
          · have l2 : decide ((acc.size : Int) ≤ 60) = true := decide_eq_true (by omega)
            have HR : Hid (quotedGo s.data.toList = some acc.data.toList) := by
              show _ = _
              rw [unhide HQ, hdc, qScan_q c1, drop_end s (k + 1) (by omega), if_pos ⟨rfl, by omega⟩]
            clear c1 hdc hse hda hacl hla
            go_wp2
            go_ret2
            exact ⟨⟨acc, true, rfl, fun _ => unhide HR, fun h => (by cases h), by omega⟩, rfl⟩
          · have l2 : decide ((acc.size : Int) ≤ 60) = false := decide_eq_false (by omega)
            have HR : Hid (quotedGo s.data.toList = none) := by
              show _ = _
              rw [unhide HQ, hdc, qScan_q c1, if_neg (fun h => by omega)]
            clear c1 hdc hse hda hacl hla
            go_wp2
            go_ret2
            exact ⟨⟨acc, false, rfl, fun h => (by cases h), fun _ => unhide HR, by omega⟩, rfl⟩
        · have l1 : ((k : Int) == (s.size : Int) - 1) = false := by rw [beq_eq_false_iff_ne]; omega
          have HR : Hid (quotedGo s.data.toList = none) := by
            show _ = _
            rw [unhide HQ, hdc, qScan_q c1, if_neg]
            intro h
            rw [drop_cons s (k + 1) (by omega)] at h
            simp at h
          clear c1 hdc hse hda hacl hla
          go_wp2
          go_ret2
          exact ⟨⟨acc, false, rfl, fun h => (by cases h), fun _ => unhide HR, by omega⟩, rfl⟩
      · have d1 : ((s[k].toNat : Int) == 34) = false := by simp [c1]
        by_cases c2 : (s[k].toNat : Int) = 92
        · have d2 : ((s[k].toNat : Int) == 92) = true := by simp [c2]
          by_cases hla : k + 1 < s.size
          · have l1 : decide ((s.size : Int) ≤ (k : Int) + 1) = false := decide_eq_false (by omega)
            have hdc' := drop_cons s (k + 1) hla
            have hse' := size_one2 s (k + 1) hla
            have hda' := data_one2 s (k + 1) hla
            by_cases e1 : (s[k + 1].toNat : Int) = 34
            · have f1 : ((s[k + 1].toNat : Int) != 34) = false := by simp [e1]
              have HR : Hid (quotedGo s.data.toList = qScan (s.data.toList.drop (k + 2)) (acc ++ s.extract (k + 1) (k + 2)).data.toList) := by
                show _ = _
                rw [unhide HQ, hdc, hdc', qScan_esc c2 (escB_t (Or.inl e1)), data_app2, hda']
              have HZ : Hid ((acc ++ s.extract (k + 1) (k + 2)).size ≤ k + 2) := by
                show _ ≤ _
                rw [size_app2, hse']; omega
              clear c1 c2 hdc hse hda hacl hdc' hse' hda' e1
              go_wp2
              exact ⟨⟨k + 2, _, by omega, by omega, rfl, by go_num, unhide HZ, HR⟩, by simp [intOf]; omega⟩
            · have f1 : ((s[k + 1].toNat : Int) != 34) = true := by simp [e1]
              by_cases e2 : (s[k + 1].toNat : Int) = 92
              · have f2 : ((s[k + 1].toNat : Int) != 92) = false := by simp [e2]
                have HR : Hid (quotedGo s.data.toList = qScan (s.data.toList.drop (k + 2)) (acc ++ s.extract (k + 1) (k + 2)).data.toList) := by
                  show _ = _
                  rw [unhide HQ, hdc, hdc', qScan_esc c2 (escB_t (Or.inr e2)), data_app2, hda']
                have HZ : Hid ((acc ++ s.extract (k + 1) (k + 2)).size ≤ k + 2) := by
                  show _ ≤ _
                  rw [size_app2, hse']; omega
                clear c1 c2 hdc hse hda hacl hdc' hse' hda' e1 e2
                go_wp2
                exact ⟨⟨k + 2, _, by omega, by omega, rfl, by go_num, unhide HZ, HR⟩, by simp [intOf]; omega⟩
              · have f2 : ((s[k + 1].toNat : Int) != 92) = true := by simp [e2]
                have HR : Hid (quotedGo s.data.toList = none) := by
                  show _ = _
                  rw [unhide HQ, hdc, hdc', qScan_noesc c2 (escB_f (by omega))]
                clear c1 c2 hdc hse hda hacl hdc' hse' hda' e1 e2
                go_wp2
                go_ret2
                exact ⟨⟨⟨#[]⟩, false, rfl, fun h => (by cases h), fun _ => unhide HR, by decide⟩, rfl⟩
          · have l1 : decide ((s.size : Int) ≤ (k : Int) + 1) = true := decide_eq_true (by omega)
            have HR : Hid (quotedGo s.data.toList = none) := by
              show _ = _
              rw [unhide HQ, hdc, drop_end s (k + 1) (by omega), qScan_last c2]
            clear c1 c2 hdc hse hda hacl hla
            go_wp2
            go_ret2
            exact ⟨⟨⟨#[]⟩, false, rfl, fun h => (by cases h), fun _ => unhide HR, by decide⟩, rfl⟩
        · have d2 : ((s[k].toNat : Int) == 92) = false := by simp [c2]
          have hw := byte_wrap s[k]
          cases hc : strC s[k]
          · have hc' : inB (s[k].toNat : Int) 32 126 = false := hc
            have HR : Hid (quotedGo s.data.toList = none) := by
              show _ = _
              rw [unhide HQ, hdc, qScan_out c1 c2 hc]
            clear c1 c2 hdc hse hda hacl hc
            go_wp2_with (go_at_call 55; refine (refIn_any _ _ _ _).mono ?_; rintro e w' ⟨rfl, hw⟩; subst hw)
            go_ret2
            exact ⟨⟨⟨#[]⟩, false, rfl, fun h => (by cases h), fun _ => unhide HR, by decide⟩, rfl⟩
          · have hc' : inB (s[k].toNat : Int) 32 126 = true := hc
            have HR : Hid (quotedGo s.data.toList = qScan (s.data.toList.drop (k + 1)) (acc ++ s.extract k (k + 1)).data.toList) := by
              show _ = _
              rw [unhide HQ, hdc, qScan_plain c1 c2 hc, data_app2, hda]
            have HZ : Hid ((acc ++ s.extract k (k + 1)).size ≤ k + 1) := by
              show _ ≤ _
              rw [size_app2, hse]; omega
            clear c1 c2 hdc hse hda hacl hc
            go_wp2_with (go_at_call 55; refine (refIn_any _ _ _ _).mono ?_; rintro e w' ⟨rfl, hw⟩; subst hw)
            exact ⟨⟨k + 1, _, by omega, by omega, rfl, by go_num, unhide HZ, HR⟩, by simp [intOf]; omega⟩
    · have HR : Hid (quotedGo s.data.toList = none) := by
        show _ = _
        rw [unhide HQ, drop_end s k (by omega)]; rfl
      clear hacl
      go_wp2
      go_ret2
      exact ⟨⟨⟨#[]⟩, false, rfl, fun h => (by cases h), fun _ => unhide HR, by decide⟩, rfl⟩
set_option maxHeartbeats 400000 in
theorem quoted_any (s : ByteArray) (w : World) (hs : s.size ≤ 20000) :
    Calls Tryd.prog 45 #[.string s] w fun e w' => QuoRes s.data.toList e ∧ w' = w := by
  have hsl : s.data.toList.length = s.size := by rw [Array.length_toList]; rfl
  by_cases h2 : 2 ≤ s.size
  · have hg := get_data s 0 (by omega)
    cases h : ((s[0].toNat : Int) != 34)
    · have h' : (s[0].toNat : Int) = 34 := by simpa using h
      refine quoted_loop s w hs h2 h (hide ?_)
      unfold quotedGo
      rw [if_neg (by omega), if_pos (by rw [hg]; show s[0].toNat = 34; omega)]
    · have HR : Hid (quotedGo s.data.toList = none) := by
        show _ = _
        have h' : ¬ (s[0].toNat : Int) = 34 := by simpa using h
        unfold quotedGo
        rw [if_neg (by omega), if_neg (by rw [hg]; show ¬ s[0].toNat = 34; omega)]
      have t1 : decide ((s.size : Int) < 2) = false := decide_eq_false (by omega)
      go_enter Tryd.func45, Tryd.ntmps45
      go_wp2
      go_ret2
      exact ⟨⟨⟨#[]⟩, false, rfl, fun h => (by cases h), fun _ => unhide HR, by decide⟩, rfl⟩
  · have HR : Hid (quotedGo s.data.toList = none) := by
      show _ = _
      unfold quotedGo
      rw [if_pos (by omega)]
    have t1 : decide ((s.size : Int) < 2) = true := decide_eq_true (by omega)
    go_enter Tryd.func45, Tryd.ntmps45
    go_wp2
    go_ret2
    exact ⟨⟨⟨#[]⟩, false, rfl, fun h => (by cases h), fun _ => unhide HR, by decide⟩, rfl⟩

end Go.Proofs.YtaapeleoiclplaaDoor

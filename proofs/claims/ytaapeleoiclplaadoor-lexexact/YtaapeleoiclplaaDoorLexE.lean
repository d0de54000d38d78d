/- What lex.isRight answers of a sign, lex.behind of a place. -/
import Derived.Test.YtaapeleoiclplaaDoorLexD
namespace Go.Proofs.YtaapeleoiclplaaDoor
open Go.RowKit
open V

theorem check_q (k n : Int) (s : ByteArray) (b : Bool) (w : World) (hs : s.size ≤ maxLen) (H : Hid (rightB k n s.data.toList = b)) :
    Calls Tryd.prog 33 #[.agg #[.int .i64 k, .int .i64 n, .string s]] w fun e w' => e = .returned (.int .i64 (chk b)) ∧ Below w.heap.size w w' := by
  refine (check_any k n s w hs).mono ?_
  rintro e w' ⟨rfl, hb⟩
  rw [unhide H]
  exact ⟨rfl, hb⟩
theorem bt {a b c : World} (h : Below a.heap.size a b) (k : Below b.heap.size b c) : Below a.heap.size a c := h.trans (k.mono h.size)
theorem rightB2 (s : List UInt8) : rightB 2 0 s = symB s := by simp [rightB]
theorem rightB1 (v : Int) : rightB 1 v [] = decide (-4611686018427387904 ≤ v ∧ v ≤ 4611686018427387904) := by simp [rightB]
theorem empty_list : (⟨#[]⟩ : ByteArray).data.toList = [] := rfl

set_option maxHeartbeats 2000000 in
theorem right_any (k : Int) (s : ByteArray) (w : World) (hs : s.size ≤ 20000) (he : Env w) (hk : k = 1 ∨ k = 2 ∨ k = 3 ∨ k = 4 ∨ k = 5) (h4 : k = 4 → ∀ h : 0 < s.size, (s[0].toNat : Int) = 34) :
    Calls Tryd.prog 16 #[.int .i64 k, .string s] w fun e w' => e = .returned (.bool (okK k s.data.toList)) ∧ Below w.heap.size w w' := by
  have hs' : s.size ≤ maxLen := by unfold maxLen; omega
  rcases hk with rfl | rfl | rfl | rfl | rfl
  · have HO : Hid (okK 1 s.data.toList = symB s.data.toList) := hide rfl
    clear h4
    cases hb : symB s.data.toList
    · have HC := hide ((rightB2 s.data.toList).trans hb)
      have HO' := hide ((unhide HO).trans hb)
      clear hb HO
      go_enter Tryd.func16, Tryd.ntmps16
      go_wp2_with (go_at_call 33; refine (check_q _ _ _ _ _ hs' HC).mono ?_; rintro e w1 ⟨rfl, hb1⟩; rw [show chk false = 1 from rfl])
      go_ret
      exact ⟨ret_bool (unhide HO'), hb1⟩
    · have HC := hide ((rightB2 s.data.toList).trans hb)
      have HO' := hide ((unhide HO).trans hb)
      clear hb HO
      go_enter Tryd.func16, Tryd.ntmps16
      go_wp2_with (go_at_call 33; refine (check_q _ _ _ _ _ hs' HC).mono ?_; rintro e w1 ⟨rfl, hb1⟩; rw [show chk true = 0 from rfl])
      go_ret
      exact ⟨ret_bool (unhide HO'), hb1⟩
  · have HO : Hid (okK 2 s.data.toList = varB s.data.toList) := hide rfl
    clear h4
    go_enter Tryd.func16, Tryd.ntmps16
    go_wp2_with (go_at_call 34; refine (lexVar_any _ _ hs).mono ?_; rintro e w1 ⟨rfl, hb1⟩)
    go_ret
    exact ⟨ret_bool (unhide HO), hb1⟩
  · have HO : Hid (okK 3 s.data.toList = atoiB s.data.toList) := hide rfl
    clear h4
    by_cases hx : ∃ v, Lib.atoiAll s.data.toList = .ok v
    · obtain ⟨v, hv⟩ := hx
      have HA : Hid (atoiB s.data.toList = rightB 1 v []) := by
        show _ = _
        unfold atoiB
        rw [hv, rightB1]
      have HV := hide hv
      clear hv
      cases hb : rightB 1 v []
      · have HC : Hid (rightB 1 v (⟨#[]⟩ : ByteArray).data.toList = false) := hide hb
        have HO' := hide (((unhide HO).trans (unhide HA)).trans hb)
        clear hb HO HA
        go_enter Tryd.func16, Tryd.ntmps16
        go_wp2_with fail
        refine (atoi_ok s v _ hs (unhide HV)).mono ?_
        rintro e w1 ⟨rfl, hb1⟩
        go_wp2_with (go_at_call 33; refine (check_q _ _ _ _ _ (by decide) HC).mono ?_; rintro e w2 ⟨rfl, hb2⟩; rw [show chk false = 1 from rfl])
        go_ret
        exact ⟨ret_bool (unhide HO'), bt hb1 hb2⟩
      · have HC : Hid (rightB 1 v (⟨#[]⟩ : ByteArray).data.toList = true) := hide hb
        have HO' := hide (((unhide HO).trans (unhide HA)).trans hb)
        clear hb HO HA
        go_enter Tryd.func16, Tryd.ntmps16
        go_wp2_with fail
        refine (atoi_ok s v _ hs (unhide HV)).mono ?_
        rintro e w1 ⟨rfl, hb1⟩
        go_wp2_with (go_at_call 33; refine (check_q _ _ _ _ _ (by decide) HC).mono ?_; rintro e w2 ⟨rfl, hb2⟩; rw [show chk true = 0 from rfl])
        go_ret
        exact ⟨ret_bool (unhide HO'), bt hb1 hb2⟩
    · have hv : ∀ v, Lib.atoiAll s.data.toList ≠ .ok v := fun v h => hx ⟨v, h⟩
      have HO' : Hid (okK 3 s.data.toList = false) := by
        show _ = _
        rw [unhide HO]
        unfold atoiB
        split
        · rename_i v hv'
          exact absurd hv' (hv v)
        · rfl
      have HV := hide hv
      clear hv hx HO
      go_enter Tryd.func16, Tryd.ntmps16
      go_wp2_with fail
      refine (atoi_no s _ hs he (unhide HV)).mono ?_
      rintro e w1 ⟨⟨n, t, p, rfl⟩, hb1⟩
      go_wp2_with fail
      go_ret
      exact ⟨ret_bool (unhide HO'), hb1⟩
  · have HO : Hid (okK 4 s.data.toList = (parseL s.data.toList).isSome) := hide rfl
    have h4' := h4 rfl
    have HP := fun W => parse34 s W hs h4'
    clear h4 h4'
    cases hp : parseL s.data.toList with
    | none =>
      have HO' : Hid (okK 4 s.data.toList = false) := hide (by rw [unhide HO, hp]; rfl)
      have HP' : Hid (∀ W, Calls Tryd.prog 36 #[.string s] W fun e w' => e = .returned (.tuple #[.agg #[.int .i64 0, .int .i64 0, .string ⟨#[]⟩], .int .i64 7]) ∧ Below W.heap.size W w') := by
        refine hide (fun W => (HP W).mono ?_)
        rintro e w' ⟨h, hb⟩
        unfold Parses at h
        rw [hp] at h
        exact ⟨h, hb⟩
      clear HP hp HO
      go_enter Tryd.func16, Tryd.ntmps16
      go_wp2_with fail
      refine (unhide HP' _).mono ?_
      rintro e w1 ⟨rfl, hb1⟩
      go_wp2_with fail
      go_ret
      exact ⟨ret_bool (unhide HO'), hb1.alloc hb1.size _⟩
    | some t =>
      obtain ⟨k, n, r⟩ := t
      have HO' : Hid (okK 4 s.data.toList = true) := hide (by rw [unhide HO, hp]; rfl)
      have HP' : Hid (∀ W, Calls Tryd.prog 36 #[.string s] W fun e w' => e = .returned (.tuple #[.agg #[.int .i64 k, .int .i64 n, .string ⟨r.toArray⟩], .int .i64 0]) ∧ Below W.heap.size W w') := by
        refine hide (fun W => (HP W).mono ?_)
        rintro e w' ⟨h, hb⟩
        unfold Parses at h
        rw [hp] at h
        exact ⟨h, hb⟩
      clear HP hp HO
      go_enter Tryd.func16, Tryd.ntmps16
      go_wp2_with fail
      refine (unhide HP' _).mono ?_
      rintro e w1 ⟨rfl, hb1⟩
      go_wp2_with fail
      go_ret
      exact ⟨ret_bool (unhide HO'), hb1.alloc hb1.size _⟩
  · clear h4
    by_cases h0 : s.size = 0
    · have hem : s.toList.isEmpty = true := by rw [isEmpty_of]; simp [h0]
      have HO' : Hid (okK 5 s.data.toList = false) := by
        show _ = _
        have : s.data.toList = [] := List.length_eq_zero_iff.1 (by rw [Array.length_toList]; exact h0)
        rw [this]; rfl
      go_enter Tryd.func16, Tryd.ntmps16
      go_wp2_with fail
      go_ret
      exact ⟨ret_bool (unhide HO'), Below.refl _ _⟩
    · have hem : s.toList.isEmpty = false := by rw [isEmpty_of]; simp [h0]
      have HO' : Hid (okK 5 s.data.toList = true) := by
        show _ = _
        rw [list_cons s (by omega)]; rfl
      go_enter Tryd.func16, Tryd.ntmps16
      go_wp2_with fail
      go_ret
      exact ⟨ret_bool (unhide HO'), Below.refl _ _⟩
end Go.Proofs.YtaapeleoiclplaaDoor

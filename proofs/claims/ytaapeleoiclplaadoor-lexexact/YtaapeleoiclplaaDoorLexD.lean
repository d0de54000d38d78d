/- What val.Parse answers of a text that opens with a quote, subst.Var of any. -/
import Derived.Test.YtaapeleoiclplaaDoorOwnE
import Derived.Test.YtaapeleoiclplaaDoorLexC
import Derived.Lib.QuietBelow
namespace Go.Proofs.YtaapeleoiclplaaDoor
open Go.RowKit
open V

set_option maxHeartbeats 1000000 in
theorem read34 (s : ByteArray) (w : World) (hs : s.size ≤ 20000) (h34 : ∀ h : 0 < s.size, (s[0].toNat : Int) = 34) :
    Calls Tryd.prog 54 #[.string s] w fun e w' => Reads s.data.toList e ∧ Below w.heap.size w w' := by
  have hlen : s.data.toList.length = s.size := by simp
  by_cases hz : s.size = 0
  · have hem : s.toList.isEmpty = true := by rw [isEmpty_of]; simp [hz]
    have HN := hide (valL_empty (l := s.data.toList) (by omega))
    clear hlen
    go_enter Tryd.func54, Tryd.ntmps54
    go_wp2
    exact bodyPost_ret (v := .tuple #[.agg #[.int .i64 0, .int .i64 0, .string ⟨#[]⟩], .bool false]) (by simp [results, Tryd.results54, go_sem]) rfl ⟨⟨0, 0, [], false, rfl, fun h => (by cases h), fun _ => unhide HN, by simp⟩, (Below.refl _ _).alloc (Nat.le_refl _) _⟩
  · have hem : s.toList.isEmpty = false := by rw [isEmpty_of]; simp [hz]
    have h0 : 0 < s.size := by omega
    by_cases hl : s.size ≤ 122
    · have hd : decide (122 < (s.size : Int)) = false := by simp; omega
      by_cases c1 : (s[0].toNat : Int) = 34
      · have d1 : ((s[0].toNat : Int) == 34) = true := by simp [c1]
        have HV := hide (valL_str s h0 hl c1)
        clear c1 hlen
        go_enter Tryd.func54, Tryd.ntmps54
        go_wp2_with (go_at_call 68; refine (unquote_any _ _ hs).mono ?_; rintro e w1 ⟨⟨r, b, rfl, ht, hf, hrl⟩, hb⟩; have HT := hide ht; have HF := hide hf; clear ht hf; obtain ⟨hcl, hfr⟩ := bcell hb; refine Hid.out ?_)
        refine Lib.hid ?_
        go_wp2
        refine bodyPost_ret (v := .tuple #[.agg #[.int .i64 3, .int .i64 0, .string ⟨r.toArray⟩], .bool b]) (by simp [results, Tryd.results54, go_sem, hcl]) rfl ⟨⟨3, 0, r, b, rfl, fun h => ?_, fun h => ?_, hrl⟩, ?_⟩
        · rw [unhide HV, unhide HT h]; rfl
        · rw [unhide HV, unhide HF h]; rfl
        · exact below_set3 (below_box hb) _ _ _ _ (Nat.le_refl _)
      · exact absurd (h34 h0) c1
    · have hd : decide (122 < (s.size : Int)) = true := by simp; omega
      have HN := hide (valL_long (l := s.data.toList) (by omega))
      clear hlen
      go_enter Tryd.func54, Tryd.ntmps54
      go_wp2
      exact bodyPost_ret (v := .tuple #[.agg #[.int .i64 0, .int .i64 0, .string ⟨#[]⟩], .bool false]) (by simp [results, Tryd.results54, go_sem]) rfl ⟨⟨0, 0, [], false, rfl, fun h => (by cases h), fun _ => unhide HN, by simp⟩, (Below.refl _ _).alloc (Nat.le_refl _) _⟩

set_option maxHeartbeats 1000000 in
theorem parse34 (s : ByteArray) (w : World) (hs : s.size ≤ 20000) (h34 : ∀ h : 0 < s.size, (s[0].toNat : Int) = 34) :
    Calls Tryd.prog 36 #[.string s] w fun e w' => Parses s.data.toList e ∧ Below w.heap.size w w' := by
  go_enter Tryd.func36, Tryd.ntmps36
  go_wp2_with (go_at_call 54; refine (read34 _ _ hs h34).mono ?_; rintro e w1 ⟨⟨k, n, r, b, rfl, ht, hf, hrl⟩, hb⟩; have HT := hide ht; have HF := hide hf; clear ht hf; obtain ⟨hcl, hfr⟩ := bcell hb; refine Hid.out ?_)
  have hz1 : w.heap.size < w1.heap.size := by have := hb.size; simp at this; omega
  cases b
  · have HP := hide (parseL_none (unhide HF rfl))
    refine Lib.hid ?_
    go_wp2
    refine bodyPost_ret (v := .tuple #[.agg #[.int .i64 0, .int .i64 0, .string ⟨#[]⟩], .int .i64 7]) (by simp [results, Tryd.results36, go_sem, hcl, hz1]) rfl ⟨Parses.no (unhide HP), ?_⟩
    exact (below_set3 (below_box hb) _ _ _ _ (Nat.le_refl _)).alloc (by simp; omega) _
  · have hv := unhide HT rfl
    have hrs : (⟨r.toArray⟩ : ByteArray).size ≤ maxLen := by unfold maxLen; show r.toArray.size ≤ _; simp; omega
    cases hr : rightB k n r
    · have HP := hide (parseL_bad hv hr)
      have hc : chk (rightB k n (⟨r.toArray⟩ : ByteArray).data.toList) = 1 := by simp [hr, chk]
      clear hv hr
      refine Lib.hid ?_
      go_wp2_with (go_at_call 33; refine (check_any _ _ _ _ hrs).mono ?_; rintro e w2 ⟨rfl, hb2⟩; rw [hc]; obtain ⟨hcl2, hfr2⟩ := bcell hb2; refine Hid.out ?_)
      refine Lib.hid ?_
      go_wp2
      have hk2 := kept_old hb2 (kept_new hb)
      have e0 : w2.cell? ⟨w.heap.size, 0, none⟩ = some (.int .i64 0) := by rw [Lib.cell_of_heap hk2]; rfl
      have e1 : w2.cell? ⟨w.heap.size, 1, none⟩ = some (.int .i64 0) := by rw [Lib.cell_of_heap hk2]; rfl
      have e2 : w2.cell? ⟨w.heap.size, 2, none⟩ = some (.string ⟨#[]⟩) := by rw [Lib.cell_of_heap hk2]; rfl
      refine bodyPost_ret (v := .tuple #[.agg #[.int .i64 0, .int .i64 0, .string ⟨#[]⟩], .int .i64 7]) (by simp [results, Tryd.results36, go_sem, e0, e1, e2]) rfl ⟨Parses.no (unhide HP), ?_⟩
      exact below_set3 ((below_box hb).trans ((below_box hb2).mono (by omega))) _ _ _ _ (Nat.le_refl _)
    · have HP := hide (parseL_good hv hr)
      have hc : chk (rightB k n (⟨r.toArray⟩ : ByteArray).data.toList) = 0 := by simp [hr, chk]
      clear hv hr
      refine Lib.hid ?_
      go_wp2_with (go_at_call 33; refine (check_any _ _ _ _ hrs).mono ?_; rintro e w2 ⟨rfl, hb2⟩; rw [hc]; obtain ⟨hcl2, hfr2⟩ := bcell hb2; refine Hid.out ?_)
      refine Lib.hid ?_
      go_wp2
      have hk2 := kept_old hb2 (kept_new hb)
      have e0 : w2.cell? ⟨w.heap.size, 0, none⟩ = some (.int .i64 0) := by rw [Lib.cell_of_heap hk2]; rfl
      have e1 : w2.cell? ⟨w.heap.size, 1, none⟩ = some (.int .i64 0) := by rw [Lib.cell_of_heap hk2]; rfl
      have e2 : w2.cell? ⟨w.heap.size, 2, none⟩ = some (.string ⟨#[]⟩) := by rw [Lib.cell_of_heap hk2]; rfl
      refine bodyPost_ret (v := .tuple #[.agg #[.int .i64 k, .int .i64 n, .string ⟨r.toArray⟩], .int .i64 0]) (by simp [results, Tryd.results36, go_sem, e0, e1, e2]) rfl ⟨Parses.ok (unhide HP), ?_⟩
      exact below_set3 ((below_box hb).trans ((below_box hb2).mono (by omega))) _ _ _ _ (Nat.le_refl _)
theorem varB_of (s : ByteArray) (h0 : 0 < s.size) : varB s.data.toList = (decide (s.size ≤ 24) && (upB s[0].toNat && s.data.toList.all innB)) := by
  have hlen : s.data.toList.length = s.size := by simp
  have h00 : s.data.toList[0]? = some s[0] := get_data s 0 h0
  cases h : s.data.toList with
  | nil => rw [h] at hlen; simp at hlen; omega
  | cons a b =>
    rw [h] at hlen h00
    simp at hlen h00
    simp only [varB, h00, hlen]
theorem varB_none {s : ByteArray} (h : ¬ 0 < s.size) : varB s.data.toList = false := by
  have hlen : s.data.toList.length = s.size := by simp
  have : s.data.toList = [] := List.length_eq_zero_iff.1 (by omega)
  rw [this]; rfl

theorem var_sym (c : UInt8) (r : List UInt8) (h : upB c.toNat = true) : symB (97 :: r) = varB (c :: r) := by
  have hc : innB c = true := by simp [innB, h]
  simp [symB, varB, h, hc, List.all_cons, show lowB 97 = true from rfl, show innB 97 = true from rfl]
theorem cut_list (s : ByteArray) (h0 : 0 < s.size) (h : upB s[0].toNat = true) : rightB 2 0 (({ data := #[97] } : ByteArray) ++ s.extract 1 s.size).data.toList = varB s.data.toList := by
  have h00 : s.data.toList[0]? = some s[0] := get_data s 0 h0
  have e : (({ data := #[97] } : ByteArray) ++ s.extract 1 s.size).data.toList = 97 :: s.data.toList.drop 1 := by
    simp [ByteArray.data_append, ByteArray.data_extract]
    exact List.take_of_length_le (by simp)
  rw [e]
  cases hs : s.data.toList with
  | nil => rw [hs] at h00; simp at h00
  | cons c r =>
    rw [hs] at h00
    simp at h00
    rw [← h00] at h
    simpa [rightB] using var_sym c r h
theorem cut_size (s : ByteArray) (hs : s.size ≤ 20000) : (({ data := #[97] } : ByteArray) ++ s.extract 1 s.size).size ≤ maxLen := by
  have : (({ data := #[97] } : ByteArray) ++ s.extract 1 s.size).size = 1 + (s.size - 1) := by
    simp [ByteArray.size_append, ByteArray.size_extract]; rfl
  unfold maxLen
  omega

set_option maxHeartbeats 1000000 in
theorem lexVar_any (s : ByteArray) (w : World) (hs : s.size ≤ 20000) :
    Calls Tryd.prog 34 #[.string s] w fun e w' => e = .returned (.bool (varB s.data.toList)) ∧ Below w.heap.size w w' := by
  by_cases h0 : 0 < s.size
  · have e0 : s.toList.isEmpty = false := by rw [isEmpty_of]; exact decide_eq_false (by omega)
    have HV := hide (varB_of s h0)
    by_cases h24 : 24 < s.size
    · have HF : Hid (varB s.data.toList = false) := hide (by rw [varB_of s h0]; simp; omega)
      have d24 : decide (24 < (s.size : Int)) = true := by simp; omega
      go_enter Tryd.func34, Tryd.ntmps34
      go_wp2_with fail
      go_ret
      exact ⟨ret_bool (unhide HF), Below.refl _ _⟩
    · have d24 : decide (24 < (s.size : Int)) = false := by simp; omega
      by_cases hA : (s[0].toNat : Int) < 65
      · have HF : Hid (varB s.data.toList = false) := hide (by rw [varB_of s h0, upB_f (c := s[0].toNat) (by omega)]; simp)
        have dA : decide ((s[0].toNat : Int) < 65) = true := decide_eq_true hA
        go_enter Tryd.func34, Tryd.ntmps34
        go_wp2_with fail
        go_ret
        exact ⟨ret_bool (unhide HF), Below.refl _ _⟩
      · have dA : decide ((s[0].toNat : Int) < 65) = false := decide_eq_false hA
        by_cases hZ : 90 < (s[0].toNat : Int)
        · have HF : Hid (varB s.data.toList = false) := hide (by rw [varB_of s h0, upB_f (c := s[0].toNat) (by omega)]; simp)
          have dZ : decide (90 < (s[0].toNat : Int)) = true := decide_eq_true hZ
          go_enter Tryd.func34, Tryd.ntmps34
          go_wp2_with fail
          go_ret
          exact ⟨ret_bool (unhide HF), Below.refl _ _⟩
        · have dZ : decide (90 < (s[0].toNat : Int)) = false := decide_eq_false hZ
          have hc := check_any 2 0 (({ data := #[97] } : ByteArray) ++ s.extract 1 s.size) w (cut_size s hs)
          rw [cut_list s h0 (upB_t (by omega) (by omega))] at hc
          cases hv : varB s.data.toList with
          | false =>
            rw [hv, show chk false = 1 from rfl] at hc
            clear HV
            go_enter Tryd.func34, Tryd.ntmps34
            go_wp2_with fail
            refine hc.mono ?_
            rintro e w1 ⟨rfl, hb1⟩
            go_wp2_with fail
            go_ret
            exact ⟨rfl, hb1⟩
          | true =>
            rw [hv, show chk true = 0 from rfl] at hc
            clear HV
            go_enter Tryd.func34, Tryd.ntmps34
            go_wp2_with fail
            refine hc.mono ?_
            rintro e w1 ⟨rfl, hb1⟩
            go_wp2_with fail
            go_ret
            exact ⟨rfl, hb1⟩
  · have e0 : s.toList.isEmpty = true := by rw [isEmpty_of]; exact decide_eq_true (by omega)
    have HF : Hid (varB s.data.toList = false) := hide (varB_none h0)
    go_enter Tryd.func34, Tryd.ntmps34
    go_wp2_with fail
    go_ret
    exact ⟨ret_bool (unhide HF), Below.refl _ _⟩

end Go.Proofs.YtaapeleoiclplaaDoor

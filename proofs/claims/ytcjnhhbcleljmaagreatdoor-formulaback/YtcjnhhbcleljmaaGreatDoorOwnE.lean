/- What val.read, val.Parse and val.Compare answer. -/
import Derived.Test.YtcjnhhbcleljmaaGreatDoorOwnD
namespace Go.Proofs.YtcjnhhbcleljmaaGreatDoor
open Go.RowKit
open V

theorem valL_empty {l : List UInt8} (h : l.length = 0) : valL l = none := by unfold valL; rw [if_pos h]
theorem valL_long {l : List UInt8} (h : 122 < l.length) : valL l = none := by
  unfold valL; rw [if_neg (by omega), if_pos h]
theorem valL_str (s : ByteArray) (h0 : 0 < s.size) (h1 : s.size ≤ 122) (h : (s[0].toNat : Int) = 34) : valL s.data.toList = (unqL s.data.toList).map fun r => (3, 0, r) := by
  have hl : s.data.toList.length = s.size := by simp
  have a : s[0].toNat = 34 := by omega
  unfold valL
  rw [hl, get_data s 0 h0, if_neg (by omega), if_neg (by omega), if_pos (by simpa using a)]
theorem valL_num (s : ByteArray) (h0 : 0 < s.size) (h1 : s.size ≤ 122) (h : ¬ (s[0].toNat : Int) = 34) (h' : (s[0].toNat : Int) = 45 ∨ digB s[0].toNat = true) : valL s.data.toList = (numL s.data.toList).map fun n => (1, n, []) := by
  have hl : s.data.toList.length = s.size := by simp
  have a : ¬ s[0].toNat = 34 := by omega
  unfold valL
  rw [hl, get_data s 0 h0, if_neg (by omega), if_neg (by omega), if_neg (by simpa using a), if_pos (by simp only [Option.getD_some]; rcases h' with h' | h'; exact Or.inl (by omega); exact Or.inr h')]
theorem valL_sym (s : ByteArray) (h0 : 0 < s.size) (h1 : s.size ≤ 122) (h : ¬ (s[0].toNat : Int) = 34) (h' : ¬ (s[0].toNat : Int) = 45) (h'' : digB s[0].toNat = false) : valL s.data.toList = some (2, 0, s.data.toList) := by
  have hl : s.data.toList.length = s.size := by simp
  have a : ¬ s[0].toNat = 34 := by omega
  unfold valL
  rw [hl, get_data s 0 h0, if_neg (by omega), if_neg (by omega), if_neg (by simpa using a), if_neg (by simp only [Option.getD_some, h'']; simp; omega)]

theorem below_set3 {B : Nat} {w w1 : World} (h : Below B w w1) (a b c : Value) (o : Nat) (ho : B ≤ o) : Below B w (((w1.setCell ⟨o, 0, none⟩ a).setCell ⟨o, 1, none⟩ b).setCell ⟨o, 2, none⟩ c) :=
  ((h.setCell (p := ⟨o, 0, none⟩) ho _).setCell (p := ⟨o, 1, none⟩) ho _).setCell (p := ⟨o, 2, none⟩) ho _

/-- A block that the call laid stands behind whatever keeps what was there. -/
theorem kept_new {w w1 : World} {o : Obj} (hb : Below (w.alloc o).heap.size (w.alloc o) w1) : w1.heap[w.heap.size]? = some o := by
  rw [hb.block w.heap.size (by simp)]
  exact heap_alloc_new w o
theorem kept_old {w w1 : World} {o o' : Obj} {k : Nat} (hb : Below (w.alloc o).heap.size (w.alloc o) w1) (h : w.heap[k]? = some o') : w1.heap[k]? = some o' := by
  have hk : k < w.heap.size := by
    rcases Nat.lt_or_ge k w.heap.size with h' | h'
    · exact h'
    · simp [Array.getElem?_eq_none h'] at h
  rw [hb.block k (by simp; omega), Lib.alloc_old w _ k hk]
  exact h

/-- What val.read may answer: whether it read, and what. -/
def Reads (l : List UInt8) (e : Ending) : Prop :=
  ∃ (k n : Int) (r : List UInt8) (b : Bool), e = .returned (.tuple #[.agg #[.int .i64 k, .int .i64 n, .string ⟨r.toArray⟩], .bool b]) ∧ (b = true → valL l = some (k, n, r)) ∧ (b = false → valL l = none) ∧ r.length ≤ 40000

set_option maxHeartbeats 1000000 in
theorem read_any (s : ByteArray) (w : World) (hs : s.size ≤ 20000) (he : Env w) :
    Calls Tryz.prog 184 #[.string s] w fun e w' => Reads s.data.toList e ∧ Below w.heap.size w w' := by
  have hlen : s.data.toList.length = s.size := by simp
  by_cases hz : s.size = 0
  · have hem : s.toList.isEmpty = true := by rw [isEmpty_of]; simp [hz]
    have HN := hide (valL_empty (l := s.data.toList) (by omega))
    clear hlen
    go_enter Tryz.func184, Tryz.ntmps184
    go_wp2
    exact bodyPost_ret (v := .tuple #[.agg #[.int .i64 0, .int .i64 0, .string ⟨#[]⟩], .bool false]) (by simp [results, Tryz.results184, go_sem]) rfl ⟨⟨0, 0, [], false, rfl, fun h => (by cases h), fun _ => unhide HN, by simp⟩, (Below.refl _ _).alloc (Nat.le_refl _) _⟩
  · have hem : s.toList.isEmpty = false := by rw [isEmpty_of]; simp [hz]
    have h0 : 0 < s.size := by omega
    by_cases hl : s.size ≤ 122
    · have hd : decide (122 < (s.size : Int)) = false := by simp; omega
      by_cases c1 : (s[0].toNat : Int) = 34
      · have d1 : ((s[0].toNat : Int) == 34) = true := by simp [c1]
        have HV := hide (valL_str s h0 hl c1)
        clear c1 hlen
        go_enter Tryz.func184, Tryz.ntmps184
        go_wp2_with (go_at_call 210; refine (unquote_any _ _ hs).mono ?_; rintro e w1 ⟨⟨r, b, rfl, ht, hf, hrl⟩, hb⟩; have HT := hide ht; have HF := hide hf; clear ht hf; obtain ⟨hcl, hfr⟩ := bcell hb; refine Hid.out ?_)
        refine Lib.hid ?_
        go_wp2
        refine bodyPost_ret (v := .tuple #[.agg #[.int .i64 3, .int .i64 0, .string ⟨r.toArray⟩], .bool b]) (by simp [results, Tryz.results184, go_sem, hcl]) rfl ⟨⟨3, 0, r, b, rfl, fun h => ?_, fun h => ?_, hrl⟩, ?_⟩
        · rw [unhide HV, unhide HT h]; rfl
        · rw [unhide HV, unhide HF h]; rfl
        · exact below_set3 (below_box hb) _ _ _ _ (Nat.le_refl _)
      · have d1 : ((s[0].toNat : Int) == 34) = false := by simp [c1]
        by_cases c2 : (s[0].toNat : Int) = 45
        · have d2 : ((s[0].toNat : Int) == 45) = true := by simp [c2]
          have HV := hide (valL_num s h0 hl c1 (Or.inl c2))
          clear c1 c2 hlen
          go_enter Tryz.func184, Tryz.ntmps184
          go_wp2_with (go_at_call 211; refine (readNumber_any _ _ hs (he.on ((Below.refl _ _).alloc (Nat.le_refl _) _))).mono ?_; rintro e w1 ⟨⟨n, b, rfl, ht, hf⟩, hb⟩; have HT := hide ht; have HF := hide hf; clear ht hf; obtain ⟨hcl, hfr⟩ := bcell hb; refine Hid.out ?_)
          refine Lib.hid ?_
          go_wp2
          refine bodyPost_ret (v := .tuple #[.agg #[.int .i64 1, .int .i64 n, .string ⟨#[]⟩], .bool b]) (by simp [results, Tryz.results184, go_sem, hcl]) rfl ⟨⟨1, n, [], b, rfl, fun h => ?_, fun h => ?_, by simp⟩, ?_⟩
          · rw [unhide HV, unhide HT h]; rfl
          · rw [unhide HV, unhide HF h]; rfl
          · exact below_set3 (below_box hb) _ _ _ _ (Nat.le_refl _)
        · have d2 : ((s[0].toNat : Int) == 45) = false := by simp [c2]
          cases c3 : digB s[0].toNat
          · have HV := hide (valL_sym s h0 hl c1 c2 c3)
            clear c1 c2
            go_enter Tryz.func184, Tryz.ntmps184
            go_wp2_with (first | (go_at_call 204; refine (isDigit_byte _ _).mono ?_; rintro e w2 ⟨rfl, rfl⟩) | (go_at_call 89; refine (clone_any _ _ hs).mono ?_; rintro e w1 ⟨rfl, hb⟩; obtain ⟨hcl, hfr⟩ := bcell hb; refine Hid.out ?_))
            refine Lib.hid ?_
            go_wp2
            refine bodyPost_ret (v := .tuple #[.agg #[.int .i64 2, .int .i64 0, .string s], .bool true]) (by simp [results, Tryz.results184, go_sem, hcl]) rfl ⟨⟨2, 0, s.data.toList, true, by rw [str_of], fun h => ?_, fun h => ?_, by omega⟩, ?_⟩
            · exact unhide HV
            · cases h
            · exact below_set3 (below_box hb) _ _ _ _ (Nat.le_refl _)
          · have HV := hide (valL_num s h0 hl c1 (Or.inr c3))
            clear c1 c2 hlen
            go_enter Tryz.func184, Tryz.ntmps184
            go_wp2_with (first | (go_at_call 204; refine (isDigit_byte _ _).mono ?_; rintro e w2 ⟨rfl, rfl⟩) | (go_at_call 211; refine (readNumber_any _ _ hs (he.on ((Below.refl _ _).alloc (Nat.le_refl _) _))).mono ?_; rintro e w1 ⟨⟨n, b, rfl, ht, hf⟩, hb⟩; have HT := hide ht; have HF := hide hf; clear ht hf; obtain ⟨hcl, hfr⟩ := bcell hb; refine Hid.out ?_))
            refine Lib.hid ?_
            go_wp2
            refine bodyPost_ret (v := .tuple #[.agg #[.int .i64 1, .int .i64 n, .string ⟨#[]⟩], .bool b]) (by simp [results, Tryz.results184, go_sem, hcl]) rfl ⟨⟨1, n, [], b, rfl, fun h => ?_, fun h => ?_, by simp⟩, ?_⟩
            · rw [unhide HV, unhide HT h]; rfl
            · rw [unhide HV, unhide HF h]; rfl
            · exact below_set3 (below_box hb) _ _ _ _ (Nat.le_refl _)
    · have hd : decide (122 < (s.size : Int)) = true := by simp; omega
      have HN := hide (valL_long (l := s.data.toList) (by omega))
      clear hlen
      go_enter Tryz.func184, Tryz.ntmps184
      go_wp2
      exact bodyPost_ret (v := .tuple #[.agg #[.int .i64 0, .int .i64 0, .string ⟨#[]⟩], .bool false]) (by simp [results, Tryz.results184, go_sem]) rfl ⟨⟨0, 0, [], false, rfl, fun h => (by cases h), fun _ => unhide HN, by simp⟩, (Below.refl _ _).alloc (Nat.le_refl _) _⟩

/-- What val.Parse may answer. -/
def Parses (l : List UInt8) (e : Ending) : Prop :=
  match parseL l with
  | some (k, n, r) => e = .returned (.tuple #[.agg #[.int .i64 k, .int .i64 n, .string ⟨r.toArray⟩], .int .i64 0])
  | none => e = .returned (.tuple #[.agg #[.int .i64 0, .int .i64 0, .string ⟨#[]⟩], .int .i64 7])
theorem Parses.no {l : List UInt8} (h : parseL l = none) : Parses l (.returned (.tuple #[.agg #[.int .i64 0, .int .i64 0, .string ⟨#[]⟩], .int .i64 7])) := by
  unfold Parses; rw [h]
theorem Parses.ok {l r : List UInt8} {k n : Int} (h : parseL l = some (k, n, r)) : Parses l (.returned (.tuple #[.agg #[.int .i64 k, .int .i64 n, .string ⟨r.toArray⟩], .int .i64 0])) := by
  unfold Parses; rw [h]
theorem parseL_none {l : List UInt8} (h : valL l = none) : parseL l = none := by unfold parseL; rw [h]
theorem parseL_bad {l r : List UInt8} {k n : Int} (h : valL l = some (k, n, r)) (hr : rightB k n r = false) : parseL l = none := by unfold parseL; rw [h]; simp [hr]
theorem parseL_good {l r : List UInt8} {k n : Int} (h : valL l = some (k, n, r)) (hr : rightB k n r = true) : parseL l = some (k, n, r) := by unfold parseL; rw [h]; simp [hr]

set_option maxHeartbeats 1000000 in
theorem parse_any (s : ByteArray) (w : World) (hs : s.size ≤ 20000) (he : Env w) :
    Calls Tryz.prog 147 #[.string s] w fun e w' => Parses s.data.toList e ∧ Below w.heap.size w w' := by
  go_enter Tryz.func147, Tryz.ntmps147
  go_wp2_with (go_at_call 184; refine (read_any _ _ hs (he.on ((Below.refl _ _).alloc (Nat.le_refl _) _))).mono ?_; rintro e w1 ⟨⟨k, n, r, b, rfl, ht, hf, hrl⟩, hb⟩; have HT := hide ht; have HF := hide hf; clear ht hf; obtain ⟨hcl, hfr⟩ := bcell hb; refine Hid.out ?_)
  have hz1 : w.heap.size < w1.heap.size := by have := hb.size; simp at this; omega
  cases b
  · have HP := hide (parseL_none (unhide HF rfl))
    refine Lib.hid ?_
    go_wp2
    refine bodyPost_ret (v := .tuple #[.agg #[.int .i64 0, .int .i64 0, .string ⟨#[]⟩], .int .i64 7]) (by simp [results, Tryz.results147, go_sem, hcl, hz1]) rfl ⟨Parses.no (unhide HP), ?_⟩
    exact (below_set3 (below_box hb) _ _ _ _ (Nat.le_refl _)).alloc (by simp; omega) _
  · have hv := unhide HT rfl
    have hrs : (⟨r.toArray⟩ : ByteArray).size ≤ maxLen := by unfold maxLen; show r.toArray.size ≤ _; simp; omega
    cases hr : rightB k n r
    · have HP := hide (parseL_bad hv hr)
      have hc : chk (rightB k n (⟨r.toArray⟩ : ByteArray).data.toList) = 1 := by simp [hr, chk]
      clear hv hr
      refine Lib.hid ?_
      go_wp2_with (go_at_call 144; refine (check_any _ _ _ _ hrs).mono ?_; rintro e w2 ⟨rfl, hb2⟩; rw [hc]; obtain ⟨hcl2, hfr2⟩ := bcell hb2; refine Hid.out ?_)
      refine Lib.hid ?_
      go_wp2
      have hk2 := kept_old hb2 (kept_new hb)
      have e0 : w2.cell? ⟨w.heap.size, 0, none⟩ = some (.int .i64 0) := by rw [Lib.cell_of_heap hk2]; rfl
      have e1 : w2.cell? ⟨w.heap.size, 1, none⟩ = some (.int .i64 0) := by rw [Lib.cell_of_heap hk2]; rfl
      have e2 : w2.cell? ⟨w.heap.size, 2, none⟩ = some (.string ⟨#[]⟩) := by rw [Lib.cell_of_heap hk2]; rfl
      refine bodyPost_ret (v := .tuple #[.agg #[.int .i64 0, .int .i64 0, .string ⟨#[]⟩], .int .i64 7]) (by simp [results, Tryz.results147, go_sem, e0, e1, e2]) rfl ⟨Parses.no (unhide HP), ?_⟩
      exact below_set3 ((below_box hb).trans ((below_box hb2).mono (by omega))) _ _ _ _ (Nat.le_refl _)
    · have HP := hide (parseL_good hv hr)
      have hc : chk (rightB k n (⟨r.toArray⟩ : ByteArray).data.toList) = 0 := by simp [hr, chk]
      clear hv hr
      refine Lib.hid ?_
      go_wp2_with (go_at_call 144; refine (check_any _ _ _ _ hrs).mono ?_; rintro e w2 ⟨rfl, hb2⟩; rw [hc]; obtain ⟨hcl2, hfr2⟩ := bcell hb2; refine Hid.out ?_)
      refine Lib.hid ?_
      go_wp2
      have hk2 := kept_old hb2 (kept_new hb)
      have e0 : w2.cell? ⟨w.heap.size, 0, none⟩ = some (.int .i64 0) := by rw [Lib.cell_of_heap hk2]; rfl
      have e1 : w2.cell? ⟨w.heap.size, 1, none⟩ = some (.int .i64 0) := by rw [Lib.cell_of_heap hk2]; rfl
      have e2 : w2.cell? ⟨w.heap.size, 2, none⟩ = some (.string ⟨#[]⟩) := by rw [Lib.cell_of_heap hk2]; rfl
      refine bodyPost_ret (v := .tuple #[.agg #[.int .i64 k, .int .i64 n, .string ⟨r.toArray⟩], .int .i64 0]) (by simp [results, Tryz.results147, go_sem, e0, e1, e2]) rfl ⟨Parses.ok (unhide HP), ?_⟩
      exact below_set3 ((below_box hb).trans ((below_box hb2).mono (by omega))) _ _ _ _ (Nat.le_refl _)
end Go.Proofs.YtcjnhhbcleljmaaGreatDoor

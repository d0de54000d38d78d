/- Joined: LexW LexD LexE LexF LexG. -/
import Derived.Test.YtcjnhhbcleljmaaGreatDoorLexZb
import Derived.Test.YtcjnhhbcleljmaaGreatDoorOwnE
import Derived.Lib.QuietBelow
import Derived.Lib.BufferMore
import Derived.Laws.OwnMore
import Derived.Maps.AppendAt
import Derived.Deep.DeepAppendWide
import Derived.Deep.RegionHeld3
import Derived.WideShapes
namespace Go.Proofs.YtcjnhhbcleljmaaGreatDoor.V

/-- Signs ahead of what is still read. -/
def preE (acc : List Tk) : Except Nat (List Tk) → Except Nat (List Tk)
  | .ok us => .ok (acc ++ us)
  | .error e => .error e
theorem pre_nil (x : Except Nat (List Tk)) : preE [] x = x := by cases x <;> rfl
theorem pre_pre (a b : List Tk) (x : Except Nat (List Tk)) : preE a (preE b x) = preE (a ++ b) x := by
  cases x with
  | ok us => simp [preE]
  | error e => rfl
theorem lex_blanks {R : Int → List UInt8 → Bool} : ∀ {l : List UInt8} {q : Nat}, lexA R l q = lexA R (l.drop (l.takeWhile blankB).length) (q + (l.takeWhile blankB).length) := by
  intro l
  induction l with
  | nil => intro q; rfl
  | cons c r ih =>
    intro q
    by_cases h : blankB c = true
    · rw [lexA_blank h, List.takeWhile_cons, if_pos h, List.length_cons, List.drop_succ_cons, ih]
      congr 1; omega
    · rw [List.takeWhile_cons, if_neg h]; rfl
theorem blankN_le (l : List UInt8) : blankN l ≤ l.length := by
  unfold blankN
  split <;> exact List.Sublist.length_le (List.takeWhile_sublist _)
theorem lex_blankN {R : Int → List UInt8 → Bool} {l : List UInt8} {q n : Nat} (h : blankN l = n) : lexA R l q = lexA R (l.drop n) (q + n) := by
  unfold blankN at h
  split at h
  · rename_i hc
    cases l with
    | nil => cases hc
    | cons c r =>
      have : c = 37 := by simpa [headB] using hc
      subst this
      rw [← h]; exact lexA_comment
  · rw [← h]; exact lex_blanks
theorem blankN_zero {c : UInt8} {r : List UInt8} (h : blankN (c :: r) = 0) : blankB c = false ∧ c ≠ 37 := by
  unfold blankN at h
  split at h
  · rename_i hc
    have : c = 37 := by simpa [headB] using hc
    subst this
    have := comment_pos r
    omega
  · rename_i hc
    refine ⟨?_, ?_⟩
    · cases hb : blankB c with
      | false => rfl
      | true => rw [List.takeWhile_cons, if_pos hb] at h; simp at h
    · rintro rfl; exact hc rfl
/-- The place behind n bytes more. -/
theorem posL_add (S : List UInt8) (q n : Nat) : posL S (q + n) = ((S.drop q).take n).foldl adv (posL S q) := by
  unfold posL
  rw [← List.foldl_append]
  congr 1
  rw [List.take_add]
/-- A sign as it lies in memory. -/
def tm (S : List UInt8) (t : Tk) : Int × ByteArray × Int × Int := (t.1, ⟨t.2.1.toArray⟩, ((posL S t.2.2).1 : Int), ((posL S t.2.2).2 : Int))
theorem wrong_error {R : Int → List UInt8 → Bool} {c : UInt8} {r : List UInt8} {q : Nat} (hb : blankN (c :: r) = 0) (h : ∀ k n, signL (c :: r) = some (k, n) → R k ((c :: r).take n) = false) : lexA R (c :: r) q = .error q := by
  obtain ⟨h1, h2⟩ := blankN_zero hb
  cases hs : signL (c :: r) with
  | none => exact lexA_none h1 h2 hs
  | some kn =>
    obtain ⟨k, n⟩ := kn
    exact lexA_wrong h1 h2 hs (h k n hs)
theorem right_ok {R : Int → List UInt8 → Bool} {c : UInt8} {r : List UInt8} {q n : Nat} {k : Int} (hb : blankN (c :: r) = 0) (hs : signL (c :: r) = some (k, n)) (hr : R k ((c :: r).take n) = true) :
    lexA R (c :: r) q = preE [(k, (c :: r).take n, q)] (lexA R ((c :: r).drop n) (q + n)) := by
  obtain ⟨h1, h2⟩ := blankN_zero hb
  rw [lexA_sign h1 h2 hs hr]
  cases lexA R ((c :: r).drop n) (q + n) <;> rfl
/-- What the program's sign and its test come to. -/
theorem prog_sign {c : UInt8} {r : List UInt8} {k : Int} {n q : Nat} (hb : blankN (c :: r) = 0) (hp : signP (c :: r) = (k, n)) :
    (okK k ((c :: r).take n) = false ∧ lexA rightK (c :: r) q = .error q) ∨
    (okK k ((c :: r).take n) = true ∧ 1 ≤ n ∧ n ≤ (c :: r).length ∧ lexA rightK (c :: r) q = preE [(k, (c :: r).take n, q)] (lexA rightK ((c :: r).drop n) (q + n))) := by
  cases hs : signL (c :: r) with
  | none =>
    have hk : (k = 4 ∨ k = 5) ∧ n = 0 := by
      rcases signP_none hs with h | h
      · rw [hp] at h
        obtain ⟨rfl, rfl⟩ := Prod.mk.inj h
        exact ⟨Or.inl rfl, rfl⟩
      · rw [hp] at h
        obtain ⟨rfl, rfl⟩ := Prod.mk.inj h
        exact ⟨Or.inr rfl, rfl⟩
    refine Or.inl ⟨by rw [hk.2]; exact okK_none hk.1, wrong_error hb (fun k' n' h => by rw [hs] at h; cases h)⟩
  | some kn =>
    obtain ⟨k', n'⟩ := kn
    have h := signP_some hs
    rw [hp] at h
    obtain ⟨rfl, rfl⟩ := Prod.mk.inj h
    have ho := okK_some hs
    cases hr : rightK k ((c :: r).take n) with
    | false => exact Or.inl ⟨by rw [ho, hr], wrong_error hb (fun k' n' h => by rw [hs] at h; obtain ⟨rfl, rfl⟩ := Prod.mk.inj (Option.some.inj h); exact hr)⟩
    | true => exact Or.inr ⟨by rw [ho, hr], signL_pos hs, signL_le hs, right_ok hb hs hr⟩
theorem signP_kind {l : List UInt8} : (signP l).1 = 1 ∨ (signP l).1 = 2 ∨ (signP l).1 = 3 ∨ (signP l).1 = 4 ∨ (signP l).1 = 5 := by
  cases l with
  | nil => simp [signP]
  | cons c r =>
    rw [signP_cons]
    split
    · simp
    · split
      · simp
      · split
        · simp
        · split <;> simp
theorem strN_le' {l : List UInt8} {n : Nat} (h : strN l = some n) : n ≤ l.length := strN_le _ (Nat.le_refl _) h
theorem signP_le (l : List UInt8) : (signP l).2 ≤ l.length := by
  cases l with
  | nil => simp [signP]
  | cons c r =>
    have t1 : ((c :: r).takeWhile innB).length ≤ (c :: r).length := List.Sublist.length_le (List.takeWhile_sublist _)
    have t2 : (r.takeWhile digC).length ≤ r.length := List.Sublist.length_le (List.takeWhile_sublist _)
    have t3 : strQ (c :: r) ≤ (c :: r).length := by
      unfold strQ
      split
      · rename_i n h
        have := strN_le' h
        simp at this ⊢; omega
      · simp
    have t4 : numN (c :: r) ≤ (c :: r).length := by
      rw [numN_cons]; split
      · simp; omega
      · simp
    have t5 : markN (c :: r) ≤ (c :: r).length := by
      rw [markN_cons]
      split
      · rename_i h
        cases r with
        | nil => cases h
        | cons d r => simp
      · split <;> simp
    rw [signP_cons]
    split
    · exact t1
    · split
      · exact t1
      · split
        · exact t3
        · split
          · exact t4
          · exact t5
theorem signP_four {c : UInt8} {r : List UInt8} (h : (signP (c :: r)).1 = 4) : c = 34 := by
  rw [signP_cons] at h
  split at h
  · simp at h
  · split at h
    · simp at h
    · split at h
      · assumption
      · split at h <;> simp at h
end Go.Proofs.YtcjnhhbcleljmaaGreatDoor.V
namespace Go.Proofs.YtcjnhhbcleljmaaGreatDoor
open Go.RowKit
open V

set_option maxHeartbeats 1000000 in
theorem read34 (s : ByteArray) (w : World) (hs : s.size ≤ 20000) (h34 : ∀ h : 0 < s.size, (s[0].toNat : Int) = 34) :
    Calls Tryz.prog 184 #[.string s] w fun e w' => Reads s.data.toList e ∧ Below w.heap.size w w' := by
  have hlen : s.data.toList.length = s.size := by simp
  by_cases hz : s.size = 0
  · have hem : s.toList.isEmpty = true := by rw [isEmpty_of]; simp [hz]
    have HN := hide (valL_empty (l := s.data.toList) (by omega))
    clear hlen
    go_enter Tryz.func184, Tryz.ntmps184
    go_wp2
    exact bodyPost_ret (v := .tuple #[.agg #[.int .i64 0, .int .i64 0, .string ⟨#[]⟩], .bool false]) (by simp [results, Tryz.results184, go_sem]) rfl ⟨⟨0, 0, [], false, rfl, fun h => (by cases h), fun _ => unhide HN, by simp⟩, (Below.refl _ _).alloc (Nat.le_refl _) _⟩
  · have hem : s.toList.isEmpty = false := by rw [isEmpty_of]; simp [hz]
    have h0 : 0 < s.size := by omega
    by_cases hl : s.size ≤ 122
    · have hd : decide (122 < (s.size : Int)) = false := by simp; omega
      by_cases c1 : (s[0].toNat : Int) = 34
      · have d1 : ((s[0].toNat : Int) == 34) = true := by simp [c1]
        have HV := hide (valL_str s h0 hl c1)
        clear c1 hlen
        go_enter Tryz.func184, Tryz.ntmps184
        go_wp2_with (go_at_call 210; refine (unquote_any _ _ hs).mono ?_; rintro e w1 ⟨⟨r, b, rfl, ht, hf, hrl⟩, hb⟩; have HT := hide ht; have HF := hide hf; clear ht hf; obtain ⟨hcl, hfr⟩ := bcell hb; refine Hid.out ?_)
        refine Lib.hid ?_
        go_wp2
        refine bodyPost_ret (v := .tuple #[.agg #[.int .i64 3, .int .i64 0, .string ⟨r.toArray⟩], .bool b]) (by simp [results, Tryz.results184, go_sem, hcl]) rfl ⟨⟨3, 0, r, b, rfl, fun h => ?_, fun h => ?_, hrl⟩, ?_⟩
        · rw [unhide HV, unhide HT h]; rfl
        · rw [unhide HV, unhide HF h]; rfl
        · exact below_set3 (below_box hb) _ _ _ _ (Nat.le_refl _)
      · exact absurd (h34 h0) c1
    · have hd : decide (122 < (s.size : Int)) = true := by simp; omega
      have HN := hide (valL_long (l := s.data.toList) (by omega))
      clear hlen
      go_enter Tryz.func184, Tryz.ntmps184
      go_wp2
      exact bodyPost_ret (v := .tuple #[.agg #[.int .i64 0, .int .i64 0, .string ⟨#[]⟩], .bool false]) (by simp [results, Tryz.results184, go_sem]) rfl ⟨⟨0, 0, [], false, rfl, fun h => (by cases h), fun _ => unhide HN, by simp⟩, (Below.refl _ _).alloc (Nat.le_refl _) _⟩

set_option maxHeartbeats 1000000 in
theorem parse34 (s : ByteArray) (w : World) (hs : s.size ≤ 20000) (h34 : ∀ h : 0 < s.size, (s[0].toNat : Int) = 34) :
    Calls Tryz.prog 147 #[.string s] w fun e w' => Parses s.data.toList e ∧ Below w.heap.size w w' := by
  go_enter Tryz.func147, Tryz.ntmps147
  go_wp2_with (go_at_call 184; refine (read34 _ _ hs h34).mono ?_; rintro e w1 ⟨⟨k, n, r, b, rfl, ht, hf, hrl⟩, hb⟩; have HT := hide ht; have HF := hide hf; clear ht hf; obtain ⟨hcl, hfr⟩ := bcell hb; refine Hid.out ?_)
  have hz1 : w.heap.size < w1.heap.size := by have := hb.size; simp at this; omega
  cases b
  · have HP := hide (parseL_none (unhide HF rfl))
    refine Lib.hid ?_
    go_wp2
    refine bodyPost_ret (v := .tuple #[.agg #[.int .i64 0, .int .i64 0, .string ⟨#[]⟩], .int .i64 7]) (by simp [results, Tryz.results147, go_sem, hcl, hz1]) rfl ⟨Parses.no (unhide HP), ?_⟩
    exact (below_set3 (below_box hb) _ _ _ _ (Nat.le_refl _)).alloc (by simp; omega) _
  · have hv := unhide HT rfl
    have hrs : (⟨r.toArray⟩ : ByteArray).size ≤ maxLen := by unfold maxLen; show r.toArray.size ≤ _; simp; omega
    cases hr : rightB k n r
    · have HP := hide (parseL_bad hv hr)
      have hc : chk (rightB k n (⟨r.toArray⟩ : ByteArray).data.toList) = 1 := by simp [hr, chk]
      clear hv hr
      refine Lib.hid ?_
      go_wp2_with (go_at_call 144; refine (check_any _ _ _ _ hrs).mono ?_; rintro e w2 ⟨rfl, hb2⟩; rw [hc]; obtain ⟨hcl2, hfr2⟩ := bcell hb2; refine Hid.out ?_)
      refine Lib.hid ?_
      go_wp2
      have hk2 := kept_old hb2 (kept_new hb)
      have e0 : w2.cell? ⟨w.heap.size, 0, none⟩ = some (.int .i64 0) := by rw [Lib.cell_of_heap hk2]; rfl
      have e1 : w2.cell? ⟨w.heap.size, 1, none⟩ = some (.int .i64 0) := by rw [Lib.cell_of_heap hk2]; rfl
      have e2 : w2.cell? ⟨w.heap.size, 2, none⟩ = some (.string ⟨#[]⟩) := by rw [Lib.cell_of_heap hk2]; rfl
      refine bodyPost_ret (v := .tuple #[.agg #[.int .i64 0, .int .i64 0, .string ⟨#[]⟩], .int .i64 7]) (by simp [results, Tryz.results147, go_sem, e0, e1, e2]) rfl ⟨Parses.no (unhide HP), ?_⟩
      exact below_set3 ((below_box hb).trans ((below_box hb2).mono (by omega))) _ _ _ _ (Nat.le_refl _)
    · have HP := hide (parseL_good hv hr)
      have hc : chk (rightB k n (⟨r.toArray⟩ : ByteArray).data.toList) = 0 := by simp [hr, chk]
      clear hv hr
      refine Lib.hid ?_
      go_wp2_with (go_at_call 144; refine (check_any _ _ _ _ hrs).mono ?_; rintro e w2 ⟨rfl, hb2⟩; rw [hc]; obtain ⟨hcl2, hfr2⟩ := bcell hb2; refine Hid.out ?_)
      refine Lib.hid ?_
      go_wp2
      have hk2 := kept_old hb2 (kept_new hb)
      have e0 : w2.cell? ⟨w.heap.size, 0, none⟩ = some (.int .i64 0) := by rw [Lib.cell_of_heap hk2]; rfl
      have e1 : w2.cell? ⟨w.heap.size, 1, none⟩ = some (.int .i64 0) := by rw [Lib.cell_of_heap hk2]; rfl
      have e2 : w2.cell? ⟨w.heap.size, 2, none⟩ = some (.string ⟨#[]⟩) := by rw [Lib.cell_of_heap hk2]; rfl
      refine bodyPost_ret (v := .tuple #[.agg #[.int .i64 k, .int .i64 n, .string ⟨r.toArray⟩], .int .i64 0]) (by simp [results, Tryz.results147, go_sem, e0, e1, e2]) rfl ⟨Parses.ok (unhide HP), ?_⟩
      exact below_set3 ((below_box hb).trans ((below_box hb2).mono (by omega))) _ _ _ _ (Nat.le_refl _)
theorem varB_of (s : ByteArray) (h0 : 0 < s.size) : varB s.data.toList = (decide (s.size ≤ 24) && (upB s[0].toNat && s.data.toList.all innB)) := by
  have hlen : s.data.toList.length = s.size := by simp
  have h00 : s.data.toList[0]? = some s[0] := get_data s 0 h0
  cases h : s.data.toList with
  | nil => rw [h] at hlen; simp at hlen; omega
  | cons a b =>
    rw [h] at hlen h00
    simp at hlen h00
    simp only [varB, h00, hlen]
theorem varB_none {s : ByteArray} (h : ¬ 0 < s.size) : varB s.data.toList = false := by
  have hlen : s.data.toList.length = s.size := by simp
  have : s.data.toList = [] := List.length_eq_zero_iff.1 (by omega)
  rw [this]; rfl

theorem var_sym (c : UInt8) (r : List UInt8) (h : upB c.toNat = true) : symB (97 :: r) = varB (c :: r) := by
  have hc : innB c = true := by simp [innB, h]
  simp [symB, varB, h, hc, List.all_cons, show lowB 97 = true from rfl, show innB 97 = true from rfl]
theorem cut_list (s : ByteArray) (h0 : 0 < s.size) (h : upB s[0].toNat = true) : rightB 2 0 (({ data := #[97] } : ByteArray) ++ s.extract 1 s.size).data.toList = varB s.data.toList := by
  have h00 : s.data.toList[0]? = some s[0] := get_data s 0 h0
  have e : (({ data := #[97] } : ByteArray) ++ s.extract 1 s.size).data.toList = 97 :: s.data.toList.drop 1 := by
    simp [ByteArray.data_append, ByteArray.data_extract]
    exact List.take_of_length_le (by simp)
  rw [e]
  cases hs : s.data.toList with
  | nil => rw [hs] at h00; simp at h00
  | cons c r =>
    rw [hs] at h00
    simp at h00
    rw [← h00] at h
    simpa [rightB] using var_sym c r h
theorem cut_size (s : ByteArray) (hs : s.size ≤ 20000) : (({ data := #[97] } : ByteArray) ++ s.extract 1 s.size).size ≤ maxLen := by
  have : (({ data := #[97] } : ByteArray) ++ s.extract 1 s.size).size = 1 + (s.size - 1) := by
    simp [ByteArray.size_append, ByteArray.size_extract]; rfl
  unfold maxLen
  omega

set_option maxHeartbeats 1000000 in
theorem lexVar_any (s : ByteArray) (w : World) (hs : s.size ≤ 20000) :
    Calls Tryz.prog 145 #[.string s] w fun e w' => e = .returned (.bool (varB s.data.toList)) ∧ Below w.heap.size w w' := by
  by_cases h0 : 0 < s.size
  · have e0 : s.toList.isEmpty = false := by rw [isEmpty_of]; exact decide_eq_false (by omega)
    have HV := hide (varB_of s h0)
    by_cases h24 : 24 < s.size
    · have HF : Hid (varB s.data.toList = false) := hide (by rw [varB_of s h0]; simp; omega)
      have d24 : decide (24 < (s.size : Int)) = true := by simp; omega
      go_enter Tryz.func145, Tryz.ntmps145
      go_wp2_with fail
      go_ret
      exact ⟨ret_bool (unhide HF), Below.refl _ _⟩
    · have d24 : decide (24 < (s.size : Int)) = false := by simp; omega
      by_cases hA : (s[0].toNat : Int) < 65
      · have HF : Hid (varB s.data.toList = false) := hide (by rw [varB_of s h0, upB_f (c := s[0].toNat) (by omega)]; simp)
        have dA : decide ((s[0].toNat : Int) < 65) = true := decide_eq_true hA
        go_enter Tryz.func145, Tryz.ntmps145
        go_wp2_with fail
        go_ret
        exact ⟨ret_bool (unhide HF), Below.refl _ _⟩
      · have dA : decide ((s[0].toNat : Int) < 65) = false := decide_eq_false hA
        by_cases hZ : 90 < (s[0].toNat : Int)
        · have HF : Hid (varB s.data.toList = false) := hide (by rw [varB_of s h0, upB_f (c := s[0].toNat) (by omega)]; simp)
          have dZ : decide (90 < (s[0].toNat : Int)) = true := decide_eq_true hZ
          go_enter Tryz.func145, Tryz.ntmps145
          go_wp2_with fail
          go_ret
          exact ⟨ret_bool (unhide HF), Below.refl _ _⟩
        · have dZ : decide (90 < (s[0].toNat : Int)) = false := decide_eq_false hZ
          have hc := check_any 2 0 (({ data := #[97] } : ByteArray) ++ s.extract 1 s.size) w (cut_size s hs)
          rw [cut_list s h0 (upB_t (by omega) (by omega))] at hc
          cases hv : varB s.data.toList with
          | false =>
            rw [hv, show chk false = 1 from rfl] at hc
            clear HV
            go_enter Tryz.func145, Tryz.ntmps145
            go_wp2_with fail
            refine hc.mono ?_
            rintro e w1 ⟨rfl, hb1⟩
            go_wp2_with fail
            go_ret
            exact ⟨rfl, hb1⟩
          | true =>
            rw [hv, show chk true = 0 from rfl] at hc
            clear HV
            go_enter Tryz.func145, Tryz.ntmps145
            go_wp2_with fail
            refine hc.mono ?_
            rintro e w1 ⟨rfl, hb1⟩
            go_wp2_with fail
            go_ret
            exact ⟨rfl, hb1⟩
  · have e0 : s.toList.isEmpty = true := by rw [isEmpty_of]; exact decide_eq_true (by omega)
    have HF : Hid (varB s.data.toList = false) := hide (varB_none h0)
    go_enter Tryz.func145, Tryz.ntmps145
    go_wp2_with fail
    go_ret
    exact ⟨ret_bool (unhide HF), Below.refl _ _⟩

end Go.Proofs.YtcjnhhbcleljmaaGreatDoor
namespace Go.Proofs.YtcjnhhbcleljmaaGreatDoor
open Go.RowKit
open V

theorem check_q (k n : Int) (s : ByteArray) (b : Bool) (w : World) (hs : s.size ≤ maxLen) (H : Hid (rightB k n s.data.toList = b)) :
    Calls Tryz.prog 144 #[.agg #[.int .i64 k, .int .i64 n, .string s]] w fun e w' => e = .returned (.int .i64 (chk b)) ∧ Below w.heap.size w w' := by
  refine (check_any k n s w hs).mono ?_
  rintro e w' ⟨rfl, hb⟩
  rw [unhide H]
  exact ⟨rfl, hb⟩
theorem rightB2 (s : List UInt8) : rightB 2 0 s = symB s := by simp [rightB]
theorem rightB1 (v : Int) : rightB 1 v [] = decide (-4611686018427387904 ≤ v ∧ v ≤ 4611686018427387904) := by simp [rightB]
theorem empty_list : (⟨#[]⟩ : ByteArray).data.toList = [] := rfl

set_option maxHeartbeats 2000000 in
theorem right_any (k : Int) (s : ByteArray) (w : World) (hs : s.size ≤ 20000) (he : Env w) (hk : k = 1 ∨ k = 2 ∨ k = 3 ∨ k = 4 ∨ k = 5) (h4 : k = 4 → ∀ h : 0 < s.size, (s[0].toNat : Int) = 34) :
    Calls Tryz.prog 88 #[.int .i64 k, .string s] w fun e w' => e = .returned (.bool (okK k s.data.toList)) ∧ Below w.heap.size w w' := by
  have hs' : s.size ≤ maxLen := by unfold maxLen; omega
  rcases hk with rfl | rfl | rfl | rfl | rfl
  · have HO : Hid (okK 1 s.data.toList = symB s.data.toList) := hide rfl
    clear h4
    cases hb : symB s.data.toList
    · have HC := hide ((rightB2 s.data.toList).trans hb)
      have HO' := hide ((unhide HO).trans hb)
      clear hb HO
      go_enter Tryz.func88, Tryz.ntmps88
      go_wp2_with (go_at_call 144; refine (check_q _ _ _ _ _ hs' HC).mono ?_; rintro e w1 ⟨rfl, hb1⟩; rw [show chk false = 1 from rfl])
      go_ret
      exact ⟨ret_bool (unhide HO'), hb1⟩
    · have HC := hide ((rightB2 s.data.toList).trans hb)
      have HO' := hide ((unhide HO).trans hb)
      clear hb HO
      go_enter Tryz.func88, Tryz.ntmps88
      go_wp2_with (go_at_call 144; refine (check_q _ _ _ _ _ hs' HC).mono ?_; rintro e w1 ⟨rfl, hb1⟩; rw [show chk true = 0 from rfl])
      go_ret
      exact ⟨ret_bool (unhide HO'), hb1⟩
  · have HO : Hid (okK 2 s.data.toList = varB s.data.toList) := hide rfl
    clear h4
    go_enter Tryz.func88, Tryz.ntmps88
    go_wp2_with (go_at_call 145; refine (lexVar_any _ _ hs).mono ?_; rintro e w1 ⟨rfl, hb1⟩)
    go_ret
    exact ⟨ret_bool (unhide HO), hb1⟩
  · have HO : Hid (okK 3 s.data.toList = atoiB s.data.toList) := hide rfl
    clear h4
    by_cases hx : ∃ v, Lib.atoiAll s.data.toList = .ok v
    · obtain ⟨v, hv⟩ := hx
      have HA : Hid (atoiB s.data.toList = rightB 1 v []) := by
        show _ = _
        unfold atoiB
        rw [hv, rightB1]
      have HV := hide hv
      clear hv
      cases hb : rightB 1 v []
      · have HC : Hid (rightB 1 v (⟨#[]⟩ : ByteArray).data.toList = false) := hide hb
        have HO' := hide (((unhide HO).trans (unhide HA)).trans hb)
        clear hb HO HA
        go_enter Tryz.func88, Tryz.ntmps88
        go_wp2_with fail
        refine (atoi_ok s v _ hs (unhide HV)).mono ?_
        rintro e w1 ⟨rfl, hb1⟩
        go_wp2_with (go_at_call 144; refine (check_q _ _ _ _ _ (by decide) HC).mono ?_; rintro e w2 ⟨rfl, hb2⟩; rw [show chk false = 1 from rfl])
        go_ret
        exact ⟨ret_bool (unhide HO'), bt hb1 hb2⟩
      · have HC : Hid (rightB 1 v (⟨#[]⟩ : ByteArray).data.toList = true) := hide hb
        have HO' := hide (((unhide HO).trans (unhide HA)).trans hb)
        clear hb HO HA
        go_enter Tryz.func88, Tryz.ntmps88
        go_wp2_with fail
        refine (atoi_ok s v _ hs (unhide HV)).mono ?_
        rintro e w1 ⟨rfl, hb1⟩
        go_wp2_with (go_at_call 144; refine (check_q _ _ _ _ _ (by decide) HC).mono ?_; rintro e w2 ⟨rfl, hb2⟩; rw [show chk true = 0 from rfl])
        go_ret
        exact ⟨ret_bool (unhide HO'), bt hb1 hb2⟩
    · have hv : ∀ v, Lib.atoiAll s.data.toList ≠ .ok v := fun v h => hx ⟨v, h⟩
      have HO' : Hid (okK 3 s.data.toList = false) := by
        show _ = _
        rw [unhide HO]
        unfold atoiB
        split
        · rename_i v hv'
          exact absurd hv' (hv v)
        · rfl
      have HV := hide hv
      clear hv hx HO
      go_enter Tryz.func88, Tryz.ntmps88
      go_wp2_with fail
      refine (atoi_no s _ hs he (unhide HV)).mono ?_
      rintro e w1 ⟨⟨n, t, p, rfl⟩, hb1⟩
      go_wp2_with fail
      go_ret
      exact ⟨ret_bool (unhide HO'), hb1⟩
  · have HO : Hid (okK 4 s.data.toList = (parseL s.data.toList).isSome) := hide rfl
    have h4' := h4 rfl
    have HP := fun W => parse34 s W hs h4'
    clear h4 h4'
    cases hp : parseL s.data.toList with
    | none =>
      have HO' : Hid (okK 4 s.data.toList = false) := hide (by rw [unhide HO, hp]; rfl)
      have HP' : Hid (∀ W, Calls Tryz.prog 147 #[.string s] W fun e w' => e = .returned (.tuple #[.agg #[.int .i64 0, .int .i64 0, .string ⟨#[]⟩], .int .i64 7]) ∧ Below W.heap.size W w') := by
        refine hide (fun W => (HP W).mono ?_)
        rintro e w' ⟨h, hb⟩
        unfold Parses at h
        rw [hp] at h
        exact ⟨h, hb⟩
      clear HP hp HO
      go_enter Tryz.func88, Tryz.ntmps88
      go_wp2_with fail
      refine (unhide HP' _).mono ?_
      rintro e w1 ⟨rfl, hb1⟩
      go_wp2_with fail
      go_ret
      exact ⟨ret_bool (unhide HO'), hb1.alloc hb1.size _⟩
    | some t =>
      obtain ⟨k, n, r⟩ := t
      have HO' : Hid (okK 4 s.data.toList = true) := hide (by rw [unhide HO, hp]; rfl)
      have HP' : Hid (∀ W, Calls Tryz.prog 147 #[.string s] W fun e w' => e = .returned (.tuple #[.agg #[.int .i64 k, .int .i64 n, .string ⟨r.toArray⟩], .int .i64 0]) ∧ Below W.heap.size W w') := by
        refine hide (fun W => (HP W).mono ?_)
        rintro e w' ⟨h, hb⟩
        unfold Parses at h
        rw [hp] at h
        exact ⟨h, hb⟩
      clear HP hp HO
      go_enter Tryz.func88, Tryz.ntmps88
      go_wp2_with fail
      refine (unhide HP' _).mono ?_
      rintro e w1 ⟨rfl, hb1⟩
      go_wp2_with fail
      go_ret
      exact ⟨ret_bool (unhide HO'), hb1.alloc hb1.size _⟩
  · clear h4
    by_cases h0 : s.size = 0
    · have hem : s.toList.isEmpty = true := by rw [isEmpty_of]; simp [h0]
      have HO' : Hid (okK 5 s.data.toList = false) := by
        show _ = _
        have : s.data.toList = [] := List.length_eq_zero_iff.1 (by rw [Array.length_toList]; exact h0)
        rw [this]; rfl
      go_enter Tryz.func88, Tryz.ntmps88
      go_wp2_with fail
      go_ret
      exact ⟨ret_bool (unhide HO'), Below.refl _ _⟩
    · have hem : s.toList.isEmpty = false := by rw [isEmpty_of]; simp [h0]
      have HO' : Hid (okK 5 s.data.toList = true) := by
        show _ = _
        rw [list_cons s (by omega)]; rfl
      go_enter Tryz.func88, Tryz.ntmps88
      go_wp2_with fail
      go_ret
      exact ⟨ret_bool (unhide HO'), Below.refl _ _⟩
end Go.Proofs.YtcjnhhbcleljmaaGreatDoor
namespace Go.Proofs.YtcjnhhbcleljmaaGreatDoor
open Go.RowKit
open V

/-- A box that holds a place. -/
structure PB (w : World) (b : Nat) (l c : Int) : Prop where
  at_ : w.heap[b]? = some (.cells #[.int .i64 l, .int .i64 c] 66 (0, 0))
namespace PB
theorem lt {w : World} {b : Nat} {l c : Int} (h : PB w b l c) : b < w.heap.size := by
  rcases Nat.lt_or_ge b w.heap.size with h' | h'
  · exact h'
  · have := h.at_
    simp [Array.getElem?_eq_none h'] at this
theorem new (w : World) (l c : Int) : PB (w.alloc (.cells #[.int .i64 l, .int .i64 c] 66)) w.heap.size l c := ⟨heap_alloc_new w _⟩
theorem alloc {w : World} {b : Nat} {l c : Int} (h : PB w b l c) (o : Obj) : PB (w.alloc o) b l c := ⟨by rw [Lib.alloc_old w o b h.lt]; exact h.at_⟩
theorem on {w w' : World} {b : Nat} {l c : Int} (h : PB w b l c) (hb : Below w.heap.size w w') : PB w' b l c := ⟨by rw [hb.block b h.lt]; exact h.at_⟩
theorem c0 {w : World} {b : Nat} {l c : Int} (h : PB w b l c) : w.cell? ⟨b, 0, none⟩ = some (.int .i64 l) := by rw [Lib.cell_of_heap h.at_]; rfl
theorem c1 {w : World} {b : Nat} {l c : Int} (h : PB w b l c) : w.cell? ⟨b, 1, none⟩ = some (.int .i64 c) := by rw [Lib.cell_of_heap h.at_]; rfl
theorem f0 {w : World} {b : Nat} {l c : Int} (h : PB w b l c) : w.frozen? ⟨b, 0, none⟩ = false := Lib.frozen_of_heap h.at_ 0
theorem f1 {w : World} {b : Nat} {l c : Int} (h : PB w b l c) : w.frozen? ⟨b, 1, none⟩ = false := Lib.frozen_of_heap h.at_ 1
theorem set0 {w : World} {b : Nat} {l c : Int} (h : PB w b l c) (x : Int) : PB (w.setCell ⟨b, 0, none⟩ (.int .i64 x)) b x c := ⟨by rw [Lib.heap_setCell_same h.at_]; rfl⟩
theorem set1 {w : World} {b : Nat} {l c : Int} (h : PB w b l c) (x : Int) : PB (w.setCell ⟨b, 1, none⟩ (.int .i64 x)) b l x := ⟨by rw [Lib.heap_setCell_same h.at_]; rfl⟩
theorem other {w : World} {b : Nat} {l c : Int} (h : PB w b l c) {g : Nat} (hne : b ≠ g) (o : Nat) (u : Value) : PB (w.setCell ⟨g, o, none⟩ u) b l c :=
  ⟨by rw [Below.heap_setCell w ⟨g, o, none⟩ u b hne]; exact h.at_⟩
theorem drew {w : World} {b : Nat} {l c : Int} (h : PB w b l c) : PB w.drew b l c := ⟨h.at_⟩
end PB

theorem fold_take (s : ByteArray) (p : Nat × Nat) (k : Nat) (h : k < s.size) : (s.data.toList.take (k + 1)).foldl adv p = adv ((s.data.toList.take k).foldl adv p) s[k] := by
  rw [take_snoc s k h, List.foldl_append]; rfl
theorem adv_nl {c : UInt8} {p : Nat × Nat} (h : ((c.toNat : Int) == 10) = true) : adv p c = (p.1 + 1, 1) := by
  have : c = 10 := UInt8.toNat_inj.1 (by have := beq_iff_eq.1 h; show c.toNat = 10; omega)
  unfold adv; rw [if_pos this]
theorem adv_one {c : UInt8} {p : Nat × Nat} (h : ((c.toNat : Int) == 10) = false) : adv p c = (p.1, p.2 + 1) := by
  have : ¬ c = 10 := by rintro rfl; exact absurd h (by decide)
  unfold adv; rw [if_neg this]
theorem ret_agg {a b c d : Int} (h : a = c) (h' : b = d) : Ending.returned (.agg #[.int .i64 a, .int .i64 b]) = .returned (.agg #[.int .i64 c, .int .i64 d]) := by rw [h, h']

set_option maxHeartbeats 2000000 in
set_option maxRecDepth 100000 in
theorem behind_any (l c : Nat) (s : ByteArray) (w : World) (hs : s.size ≤ 20000) (hl : l ≤ 40000) (hc : c ≤ 40000) :
    Calls Tryz.prog 90 #[.agg #[.int .i64 l, .int .i64 c], .string s] w fun e w' => e = .returned (.agg #[.int .i64 (s.data.toList.foldl adv (l, c)).1, .int .i64 (s.data.toList.foldl adv (l, c)).2]) ∧ Below w.heap.size w w' := by
  go_enter Tryz.func90, Tryz.ntmps90
  go_wp2
  have hp0 := (PB.new w l c).alloc (.cells #[.int .i64 0, .int .i64 0] 66)
  have hr0 := PB.new (w.alloc (.cells #[.int .i64 l, .int .i64 c] 66)) 0 0
  rw [show (w.alloc (.cells #[.int .i64 l, .int .i64 c] 66)).heap.size = w.heap.size + 1 by simp] at hr0
  have hb0 : Below w.heap.size w ((w.alloc (.cells #[.int .i64 l, .int .i64 c] 66)).alloc (.cells #[.int .i64 0, .int .i64 0] 66)) := ((Below.refl _ _).alloc (Nat.le_refl _) _).alloc (by simp) _
  generalize (w.alloc (.cells #[.int .i64 (l : Int), .int .i64 (c : Int)] 66)).alloc (.cells #[.int .i64 0, .int .i64 0] 66) = W at hp0 hr0 hb0 ⊢
  go_loopw [8] (fun i wr => ∃ (k a b : Nat), k ≤ s.size ∧ i = .int .i64 k ∧ Hid ((s.data.toList.take k).foldl adv (l, c) = (a, b)) ∧ a ≤ 40000 + k ∧ b ≤ 40000 + k ∧ PB wr w.heap.size a b ∧ PB wr (w.heap.size + 1) 0 0 ∧ Below w.heap.size w wr) (fun i _ => s.size - (intOf i).toNat)
  case atStart => exact ⟨0, l, c, by omega, rfl, hide (by simp), by omega, by omega, hp0, hr0, hb0⟩
  case round =>
    obtain ⟨k, a, b, hk, rfl, HF, ha, hb, hp, hr, hbw⟩ := hrel
    obtain ⟨p0, p1, q0, q1⟩ : _ ∧ _ ∧ _ ∧ _ := ⟨hp.c0, hp.c1, hp.f0, hp.f1⟩
    by_cases hlt : k < s.size
    · cases hn : ((s[k].toNat : Int) == 10)
      · have HF' : Hid ((s.data.toList.take (k + 1)).foldl adv (l, c) = (a, b + 1)) := hide (by rw [fold_take s _ k hlt, unhide HF, adv_one hn])
        go_wp2_with fail
        go_roundw
        case rel => exact ⟨k + 1, a, b + 1, by omega, by go_num, HF', by omega, by omega, hp.set1 _, hr.other (by omega) _ _, hbw.setCell (p := ⟨w.heap.size, 1, none⟩) (Nat.le_refl _) _⟩
        case measure => simp [intOf]; omega
      · have HF' : Hid ((s.data.toList.take (k + 1)).foldl adv (l, c) = (a + 1, 1)) := hide (by rw [fold_take s _ k hlt, unhide HF, adv_nl hn])
        go_wp2_with fail
        go_roundw
        case rel => exact ⟨k + 1, a + 1, 1, by omega, by go_num, HF', by omega, by omega, ((hp.set1 _).set0 _).set1 _, ((hr.other (by omega) _ _).other (by omega) _ _).other (by omega) _ _, ((hbw.setCell (p := ⟨w.heap.size, 1, none⟩) (Nat.le_refl _) _).setCell (p := ⟨w.heap.size, 0, none⟩) (Nat.le_refl _) _).setCell (p := ⟨w.heap.size, 1, none⟩) (Nat.le_refl _) _⟩
        case measure => simp [intOf]; omega
    · have HR : Hid (s.data.toList.foldl adv (l, c) = (a, b)) := by
        show _ = _
        have := unhide HF
        rw [take_all s k (by omega)] at this
        exact this
      obtain ⟨r0, r1, u0, u1⟩ : _ ∧ _ ∧ _ ∧ _ := ⟨hr.c0, hr.c1, hr.f0, hr.f1⟩
      go_wp2_with fail
      have r9 := (hr.set0 a).set1 b
      refine bodyPost_ret (v := .agg #[.int .i64 a, .int .i64 b]) (by simp [results, Tryz.results90, go_sem, r9.c0, r9.c1]) rfl ⟨ret_agg (by rw [unhide HR]) (by rw [unhide HR]), ?_⟩
      exact (hbw.setCell (p := ⟨w.heap.size + 1, 0, none⟩) (by simp) _).setCell (p := ⟨w.heap.size + 1, 1, none⟩) (by simp) _
end Go.Proofs.YtcjnhhbcleljmaaGreatDoor
namespace Go.Proofs.YtcjnhhbcleljmaaGreatDoor
open Go.RowKit
open V

theorem cell_lt {w : World} {b o : Nat} {v : Value} (h : w.cell? ⟨b, o, none⟩ = some v) : b < w.heap.size := by
  by_cases hb : b < w.heap.size
  · exact hb
  · simp [World.cell?, Array.getElem?_eq_none (show w.heap.size ≤ b by omega)] at h
theorem cell_on {w w' : World} {b o : Nat} {v : Value} (hb : Below w.heap.size w w') (h : w.cell? ⟨b, o, none⟩ = some v) : w'.cell? ⟨b, o, none⟩ = some v :=
  (hb.cell (p := ⟨b, o, none⟩) (cell_lt h)).trans h
/-- A sign as it lies in memory: kind, text, line, column. -/
abbrev Tm := Int × ByteArray × Int × Int
abbrev bxT (x : Tm) : Obj := .cells #[.int .i64 x.1, .string x.2.1, .int .i64 x.2.2.1, .int .i64 x.2.2.2] 89
def flatT : List Tm → List Value
  | [] => []
  | x :: r => .int .i64 x.1 :: .string x.2.1 :: .int .i64 x.2.2.1 :: .int .i64 x.2.2.2 :: flatT r
theorem flatT_app (xs ys : List Tm) : flatT (xs ++ ys) = flatT xs ++ flatT ys := by
  induction xs with
  | nil => rfl
  | cons x r ih => simp [flatT, ih]
theorem flatT_len (xs : List Tm) : (flatT xs).length = xs.length * 4 := by
  induction xs with
  | nil => rfl
  | cons x r ih => simp [flatT, ih]; omega
theorem flatT_get (xs : List Tm) : ∀ (i : Nat) (x : Tm), xs[i]? = some x → (flatT xs)[i * 4]? = some (.int .i64 x.1) ∧ (flatT xs)[i * 4 + 1]? = some (.string x.2.1) ∧ (flatT xs)[i * 4 + 2]? = some (.int .i64 x.2.2.1) ∧ (flatT xs)[i * 4 + 3]? = some (.int .i64 x.2.2.2) := by
  induction xs with
  | nil => intro i x h; simp at h
  | cons y r ih =>
    intro i x h
    match i with
    | 0 => simp at h; subst h; simp [flatT]
    | i + 1 =>
      have := ih i x (by simpa using h)
      rw [show (i + 1) * 4 = i * 4 + 1 + 1 + 1 + 1 by omega]
      simpa [flatT] using this
theorem flatT_oneCell (xs : List Tm) : ∀ u ∈ flatT xs, u.oneCell' = true := by
  induction xs with
  | nil => intro u h; simp [flatT] at h
  | cons x r ih =>
    intro u h
    simp only [flatT, List.mem_cons] at h
    rcases h with rfl | rfl | rfl | rfl | h
    · rfl
    · rfl
    · rfl
    · rfl
    · exact ih u h
/-- A row of them lies at a. -/
def RowT (w : World) (a : Option Addr) (xs : List Tm) : Prop :=
  xs = [] ∨ ∃ b o, a = some ⟨b, o, none⟩ ∧ b < w.heap.size ∧ ∀ (i : Nat) (x : Tm), xs[i]? = some x →
    w.cell? ⟨b, o + i * 4, none⟩ = some (.int .i64 x.1) ∧ w.cell? ⟨b, o + i * 4 + 1, none⟩ = some (.string x.2.1) ∧ w.cell? ⟨b, o + i * 4 + 2, none⟩ = some (.int .i64 x.2.2.1) ∧ w.cell? ⟨b, o + i * 4 + 3, none⟩ = some (.int .i64 x.2.2.2)
theorem RowT.on {w w' : World} {a : Option Addr} {xs : List Tm} (h : RowT w a xs) (hb : Below w.heap.size w w') : RowT w' a xs := by
  rcases h with h | ⟨b, o, ha, hlt, hc⟩
  · exact Or.inl h
  · refine Or.inr ⟨b, o, ha, by have := hb.size; omega, fun i v hv => ?_⟩
    obtain ⟨h0, h1, h2, h3⟩ := hc i v hv
    exact ⟨cell_on hb h0, cell_on hb h1, cell_on hb h2, cell_on hb h3⟩
theorem RowT.up {w : World} {a : Option Addr} {xs : List Tm} {i : Nat} (h : RowT w a xs) (hi : i < xs.length) : ∃ b o, a = some ⟨b, o, none⟩ ∧ b < w.heap.size ∧
    w.cell? ⟨b, o + i * 4, none⟩ = some (.int .i64 xs[i].1) ∧ w.cell? ⟨b, o + i * 4 + 1, none⟩ = some (.string xs[i].2.1) ∧ w.cell? ⟨b, o + i * 4 + 2, none⟩ = some (.int .i64 xs[i].2.2.1) ∧ w.cell? ⟨b, o + i * 4 + 3, none⟩ = some (.int .i64 xs[i].2.2.2) := by
  rcases h with h | ⟨b, o, ha, hlt, hc⟩
  · subst h; simp at hi
  · exact ⟨b, o, ha, hlt, hc i xs[i] (by simp [hi])⟩
/-- A piece of a row: l[p:q]. -/
theorem RowT.cut {w : World} {b o : Nat} {xs : List Tm} (h : RowT w (some ⟨b, o, none⟩) xs) (p k : Nat) : RowT w (some ⟨b, o + p * 4, none⟩) ((xs.drop p).take k) := by
  rcases h with h | ⟨b', o', ha, hlt, hc⟩
  · left; subst h; simp
  · simp only [Option.some.injEq, Addr.mk.injEq, and_true] at ha
    obtain ⟨rfl, rfl⟩ := ha
    refine Or.inr ⟨b, o + p * 4, rfl, hlt, fun i x hx => ?_⟩
    have hx' : xs[p + i]? = some x := by
      have hk : i < k := by
        have := (List.getElem?_eq_some_iff.1 hx).1
        simp at this; omega
      rw [List.getElem?_take_of_lt hk, List.getElem?_drop] at hx
      exact hx
    have := hc (p + i) x hx'
    rw [show o + (p + i) * 4 = o + p * 4 + i * 4 by omega] at this
    exact this
/-- A list of signs lies at a slice. -/
structure LiesT (w : World) (a : Option Addr) (n cap : Nat) (xs : List Tm) : Prop where
  row : RowT w a xs
  len : n = xs.length
  nil : a = none → cap = 0
  cap : n ≤ cap
theorem LiesT.on {w w' : World} {a : Option Addr} {n cap : Nat} {xs : List Tm} (h : LiesT w a n cap xs) (hb : Below w.heap.size w w') : LiesT w' a n cap xs := ⟨h.row.on hb, h.len, h.nil, h.cap⟩
theorem LiesT.le {w : World} {a : Option Addr} {n cap : Nat} {xs : List Tm} (h : LiesT w a n cap xs) : n ≤ xs.length := by rw [h.len]; exact Nat.le_refl _
theorem LiesT.ge {w : World} {a : Option Addr} {n cap : Nat} {xs : List Tm} (h : LiesT w a n cap xs) : xs.length ≤ n := by rw [h.len]; exact Nat.le_refl _
theorem liesT_none (w : World) : LiesT w none 0 0 [] := ⟨Or.inl rfl, rfl, fun _ => rfl, Nat.le_refl _⟩
theorem liesT_own {w : World} {B n cp : Nat} {e : TypeId} {ao : Option Addr} {xs : List Tm} (h : w.ownsRow B e 4 (.slice ao n cp) n (flatT xs)) : LiesT w ao n cp xs := by
  have hn : n = xs.length := by have := h.1; rw [flatT_len] at this; omega
  rcases h.2 with ⟨hv, h0⟩ | ⟨g, cap, cur, hv, _, hg, hc, _, _, ht⟩
  · simp only [Value.slice.injEq] at hv
    exact ⟨Or.inl (List.eq_nil_of_length_eq_zero (by omega)), hn, fun _ => hv.2.2, by omega⟩
  · simp only [Value.slice.injEq] at hv
    obtain ⟨rfl, _, rfl⟩ := hv
    refine ⟨Or.inr ⟨g, 0, rfl, (Array.getElem?_eq_some_iff.1 hg).1, fun i v hv => ?_⟩, hn, (fun h => by cases h), hc⟩
    have hi : i < n := by rw [hn]; exact (List.getElem?_eq_some_iff.1 hv).1
    obtain ⟨h0, h1, h2, h3⟩ := flatT_get xs i v hv
    rw [← ht] at h0 h1 h2 h3
    rw [List.getElem?_take_of_lt (by omega), Array.getElem?_toList] at h0 h1 h2 h3
    rw [Lib.cell_of_heap hg, Lib.cell_of_heap hg, Lib.cell_of_heap hg, Lib.cell_of_heap hg]
    simpa using ⟨h0, h1, h2, h3⟩

def OwnT (w : World) (B : Nat) (v : Value) (xs : List Tm) : Prop := w.ownsRow B 89 4 v xs.length (flatT xs)
theorem ownT_nil (w : World) (B : Nat) : OwnT w B (.slice none 0 0) [] := World.ownsRow_nil _ _ _ _
theorem ownT_alloc {w : World} {B : Nat} {v : Value} {xs : List Tm} (h : OwnT w B v xs) (o : Obj) : OwnT (w.alloc o) B v xs := World.ownsRow.alloc h o
theorem own_on {w w' : World} {B e size n : Nat} {v : Value} {xs : List Value} (h : w.ownsRow B e size v n xs) (hb : Below w.heap.size w w') : w'.ownsRow B e size v n xs := by
  refine ⟨h.1, ?_⟩
  rcases h.2 with hn | ⟨g, cap, cur, rfl, hg, hgg, rest⟩
  · exact .inl hn
  · exact .inr ⟨g, cap, cur, rfl, hg, by rw [hb.block g (Array.getElem?_eq_some_iff.1 hgg).1]; exact hgg, rest⟩
theorem OwnT.on {w w' : World} {B : Nat} {v : Value} {xs : List Tm} (h : OwnT w B v xs) (hb : Below w.heap.size w w') : OwnT w' B v xs := own_on h hb
theorem OwnT.other {w : World} {B : Nat} {v : Value} {xs : List Tm} (h : OwnT w B v xs) {g : Nat} (hne : v.ownBlock ≠ some g) (o : Nat) (u : Value) : OwnT (w.setCell ⟨g, o, none⟩ u) B v xs :=
  ownsRow_setCell_other h hne u
theorem OwnT.lt {w : World} {B : Nat} {v : Value} {xs : List Tm} (h : OwnT w B v xs) : ∀ m, v.ownBlock = some m → B ≤ m ∧ m < w.heap.size := fun m hm => World.ownsRow.lt h m hm
theorem OwnT.slice {w : World} {B : Nat} {v : Value} {xs : List Tm} (h : OwnT w B v xs) : ∃ a n c, v = .slice a n c ∧ LiesT w a n c xs := by
  have h' := h
  rcases h.2 with ⟨rfl, h0⟩ | ⟨g, cap, cur, rfl, _⟩
  · refine ⟨none, 0, 0, rfl, ?_⟩
    have : xs = [] := List.eq_nil_of_length_eq_zero h0
    subst this; exact liesT_none w
  · exact ⟨_, _, _, rfl, liesT_own h'⟩
theorem infoT : (Tryz.prog.info? 89).map (fun i => (i.zero, i.size, i.bytes)) = some (some (.agg #[.int .i64 0, .string ⟨#[]⟩, .int .i64 0, .int .i64 0]), 4, 40) := by kernel_rfl
theorem step_append_wide {P : Program} {w : World} {ops : Array Oper} {o : Oper} {a : Act} {K : Act → World → Prop} {Q : Exit → Act → World → Prop} {E : Prop} (hgd : o.guard = none) (s x : Operand) (t : TypeId)
    (ho : o.op = .call { callee := .builtin .append, args := #[s, x], argTypes := #[t, t] })
    (base : Nat) (e : TypeId) (i : TypeInfo) (z : Value) (size bytes : Nat) (ht : P.underlying t = some (.slice e)) (hi : P.info? e = some i) (hz : i.zero = some z)
    (hsize : i.size = size) (hby : i.bytes = bytes) (hzs : z.cells.size = size) (hsz : 0 < size)
    (v : Value) (n : Nat) (xs : List Value) (hs : a.eval s = v) (hown : w.ownsRow base e size v n xs)
    (ad : Addr) (m c : Nat) (news : List Value) (hx : a.eval x = .slice (some ad) m c) (hl : news.length = m * size) (hnews : ∀ j u, news[j]? = some u → w.cell? (ad.add j) = some u) (h1 : ∀ u ∈ news, u.oneCell' = true)
    (h63 : n + m ≤ maxLen) (hbytes : ((n + m) + (n + m) / 4 + 192) * bytes ≤ 281474976710656) (hbase : base ≤ w.heap.size)
    (h : ∀ v' w', w'.ownsRow base e size v' (n + m) (xs ++ news) → w.grownBy w' v.ownBlock → (v' = .slice none 0 0 ↔ v = .slice none 0 0 ∧ m = 0) → K (a.put o.dst v') w') :
    if Region.wanted o (yielded ops a.tmps) = true then Oper.wp P o a w K Q else E := by
  have hw : Region.wanted o (yielded ops a.tmps) = true := by simp [Region.wanted, hgd]
  rw [if_pos hw]
  exact wp_append_own_wide w s x t ho base e i z size bytes ht hi hz hsize hby hzs hsz v n xs hs hown ad m c news hx hl hnews h1 h63 hbytes hbase h


theorem OwnT.less {w : World} {B C : Nat} {v : Value} {xs : List Tm} (h : OwnT w C v xs) (hc : B ≤ C) : OwnT w B v xs := by
  refine ⟨h.1, ?_⟩
  rcases h.2 with hn | ⟨g, cap, cur, rfl, hg, rest⟩
  · exact .inl hn
  · exact .inr ⟨g, cap, cur, rfl, by omega, rest⟩
theorem OwnT.drew {w : World} {B : Nat} {v : Value} {xs : List Tm} (h : OwnT w B v xs) : OwnT w.drew B v xs := h
theorem PB.grown {w w' : World} {b : Nat} {l c : Int} {r : Option Nat} (h : PB w b l c) (hg : w.grownBy w' r) (hne : r ≠ some b) : PB w' b l c :=
  ⟨by rw [hg.block b h.lt (fun e => hne e.symm)]; exact h.at_⟩
theorem OwnT.ne {w : World} {b : Nat} {v : Value} {xs : List Tm} (h : OwnT w (b + 1) v xs) : v.ownBlock ≠ some b := fun e => by have := (h.lt b e).1; omega
theorem OwnT.set {w : World} {b : Nat} {v : Value} {xs : List Tm} (h : OwnT w (b + 1) v xs) (o : Nat) (u : Value) : OwnT (w.setCell ⟨b, o, none⟩ u) (b + 1) v xs := h.other h.ne o u
/-- The cells of one sign in a block of its own. -/
theorem cells_t {W : World} {b : Nat} {x : Tm} (h : W.heap[b]? = some (bxT x)) : ∀ (j : Nat) (u : Value), (flatT [x])[j]? = some u → W.cell? ((⟨b, 0, none⟩ : Addr).add j) = some u := by
  intro j u hu
  rw [WideShapes.add_plain, Lib.cell_of_heap h]
  match j, hu with
  | 0, hu => simpa [flatT] using hu
  | 1, hu => simpa [flatT] using hu
  | 2, hu => simpa [flatT] using hu
  | 3, hu => simpa [flatT] using hu
  | j + 4, hu => simp [flatT] at hu
theorem OwnT.more {w : World} {B n : Nat} {v : Value} {xs : List Tm} {u : Tm} (h : w.ownsRow B 89 4 v (n + 1) (flatT xs ++ flatT [u])) (hn : n = xs.length) : OwnT w B v (xs ++ [u]) := by
  unfold OwnT
  rw [flatT_app, List.length_append, ← hn]
  exact h
end Go.Proofs.YtcjnhhbcleljmaaGreatDoor

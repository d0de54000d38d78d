/- What the document's own functions Number, Quoted and ParseValue return. -/
import Derived.Test.YthhfahfgfcicbaaDoorOwnU
namespace Go.Proofs.YthhfahfgfcicbaaDoor
open Go.RowKit
open V
namespace V
def qScan : List UInt8 → List UInt8 → Option (List UInt8)
  | [], _ => none
  | c :: r, acc =>
    if c.toNat = 34 then (if r = [] ∧ acc.length ≤ 60 then some acc else none)
    else if c.toNat = 92 then
      match r with
      | [] => none
      | d :: q => if escB d.toNat then qScan q (acc ++ [d]) else none
    else if strC c then qScan r (acc ++ [c]) else none
def quotedGo (l : List UInt8) : Option (List UInt8) :=
  if l.length < 2 then none else if (l[0]?.getD 0).toNat = 34 then qScan (l.drop 1) [] else none

theorem qScan_q {c : UInt8} {r acc : List UInt8} (h : (c.toNat : Int) = 34) : qScan (c :: r) acc = if r = [] ∧ acc.length ≤ 60 then some acc else none := by
  have : c.toNat = 34 := by omega
  rw [qScan.eq_def]; simp [this]
theorem qScan_last {c : UInt8} {acc : List UInt8} (h : (c.toNat : Int) = 92) : qScan [c] acc = none := by
  have : c.toNat = 92 := by omega
  rw [qScan.eq_def]; simp [this]
theorem qScan_esc {c d : UInt8} {r acc : List UInt8} (h : (c.toNat : Int) = 92) (hd : escB d.toNat = true) : qScan (c :: d :: r) acc = qScan r (acc ++ [d]) := by
  have : c.toNat = 92 := by omega
  rw [qScan.eq_def]; simp [this, hd]
theorem qScan_noesc {c d : UInt8} {r acc : List UInt8} (h : (c.toNat : Int) = 92) (hd : escB d.toNat = false) : qScan (c :: d :: r) acc = none := by
  have : c.toNat = 92 := by omega
  rw [qScan.eq_def]; simp [this, hd]
theorem qScan_plain {c : UInt8} {r acc : List UInt8} (h : ¬ (c.toNat : Int) = 34) (h' : ¬ (c.toNat : Int) = 92) (hc : strC c = true) : qScan (c :: r) acc = qScan r (acc ++ [c]) := by
  have a : ¬ c.toNat = 34 := by omega
  have b : ¬ c.toNat = 92 := by omega
  rw [qScan.eq_def]; simp [a, b, hc]
theorem qScan_out {c : UInt8} {r acc : List UInt8} (h : ¬ (c.toNat : Int) = 34) (h' : ¬ (c.toNat : Int) = 92) (hc : strC c = false) : qScan (c :: r) acc = none := by
  have a : ¬ c.toNat = 34 := by omega
  have b : ¬ c.toNat = 92 := by omega
  rw [qScan.eq_def]; simp [a, b, hc]

theorem qScan_quote (r acc : List UInt8) (h : r.all strC = true) (hl : acc.length + r.length ≤ 60) : qScan (escL r ++ [34]) acc = some (acc ++ r) := by
  induction r generalizing acc with
  | nil => rw [show escL [] ++ [34] = [34] from rfl, qScan_q (by decide)]; simp at hl; simp [hl]
  | cons c r ih =>
    simp only [List.all_cons, Bool.and_eq_true] at h
    simp only [List.length_cons] at hl
    simp only [escL]
    cases he : escB c.toNat
    · have h' : ¬ ((c.toNat : Int) = 34 ∨ (c.toNat : Int) = 92) := by simpa [escB] using he
      simp only [Bool.false_eq_true, if_false, List.cons_append]
      rw [qScan_plain (fun e => h' (Or.inl e)) (fun e => h' (Or.inr e)) h.1, ih _ h.2 (by simp; omega)]; simp
    · simp only [if_true, List.cons_append]
      rw [qScan_esc (by decide) he, ih _ h.2 (by simp; omega)]; simp
theorem quotedGo_quote (r : List UInt8) (h : strB r = true) : quotedGo (quoteL r) = some r := by
  simp only [strB, Bool.and_eq_true, decide_eq_true_eq] at h
  unfold quotedGo
  rw [if_neg (by simp [quoteL]), if_pos (by simp [quoteL])]
  simp only [quoteL, List.drop_succ_cons, List.drop_zero]
  rw [qScan_quote r [] h.2 (by simpa using h.1)]; rfl
theorem quotedGo_other {c : UInt8} {r : List UInt8} (h : c.toNat ≠ 34) : quotedGo (c :: r) = none := by
  unfold quotedGo
  split
  · rfl
  · rw [if_neg (by simpa using h)]
theorem numRest_none {b : Bool} {c : UInt8} {r : List UInt8} (h : digB c.toNat = false) : numRest b (c :: r) = none := by
  unfold numRest
  rw [if_neg (by simp), if_neg]
  simp [isD, h]
theorem numGo_other {c : UInt8} {r : List UInt8} (h : c.toNat ≠ 45) (hd : digB c.toNat = false) : numGo (c :: r) = none := by
  simp only [numGo]
  rw [if_neg h]; exact numRest_none hd
theorem dec_all (u : Nat) : (Lib.decDigits u).all isD = true := by
  induction u using Nat.strongRecOn with
  | _ u ih =>
    by_cases h10 : u < 10
    · rw [Lib.decDigits, dif_pos h10]
      simp only [List.all_cons, List.all_nil, Bool.and_true, isD, digit_toNat h10]
      exact digB_t (by omega) (by omega)
    · rw [Lib.decDigits, dif_neg h10, List.all_append, ih (u / 10) (by omega)]
      have hd : u % 10 < 10 := Nat.mod_lt _ (by decide)
      simp only [List.all_cons, List.all_nil, Bool.and_true, Bool.true_and, isD, digit_toNat hd]
      exact digB_t (by omega) (by omega)
theorem numGo_itoa (n : Int) (h0 : -4611686018427387904 ≤ n) (h1 : n ≤ 4611686018427387904) : numGo (Lib.itoa n) = some n := by
  unfold Lib.itoa
  by_cases hn : n < 0
  · rw [if_pos hn]
    simp only [numGo]
    rw [if_pos (by decide)]
    obtain ⟨c, r, e, _⟩ := dec_cons n.natAbs
    unfold numRest
    rw [if_neg (by rw [e]; simp), if_pos (dec_all _), numFold_dec _ (by omega)]
    simp; omega
  · rw [if_neg hn]
    obtain ⟨c, r, e, e1, e2⟩ := dec_cons n.toNat
    have hf := numFold_dec n.toNat (by omega)
    have ha := dec_all n.toNat
    rw [e] at hf ha ⊢
    simp only [numGo]
    rw [if_neg (by omega)]
    unfold numRest
    rw [if_neg (by simp), if_pos ha, hf]
    simp; omega
end V

set_option maxHeartbeats 400000 in
theorem number_any (s : ByteArray) (w : World) (hs : s.size ≤ 1000) :
    Calls Tryd.prog 21 #[.string s] w fun e w' => NumRes s.data.toList e ∧ w' = w := by
  by_cases h0 : 0 < s.size
  · cases h : ((s[0].toNat : Int) == 45)
    · exact number_loop s w hs h0 h (hide (numGo_pos s h0 h))
    · exact number_neg s w hs h0 h
  · have hz : s.size = 0 := by omega
    have HR : Hid (numGo s.data.toList = none) := by
      show _ = _
      have : s.data.toList = [] := List.length_eq_zero_iff.1 (by rw [Array.length_toList]; exact hz)
      rw [this]; rfl
    have t1 : decide (0 < (s.size : Int)) = false := decide_eq_false (by omega)
    have t2 : ((s.size : Int) == 0) = true := by rw [beq_iff_eq]; omega
    clear h0 hz
    go_enter Tryd.func21, Tryd.ntmps21
    go_wp2
    go_ret2
    exact ⟨⟨0, false, rfl, fun h => (by cases h), fun _ => unhide HR⟩, rfl⟩

/-- What Quoted may answer. -/
def QuoRes (l : List UInt8) (e : Ending) : Prop := ∃ (t : ByteArray) (b : Bool), e = .returned (.tuple #[.string t, .bool b]) ∧ (b = true → quotedGo l = some t.data.toList) ∧ (b = false → quotedGo l = none) ∧ t.size ≤ 1000

set_option maxHeartbeats 2000000 in
theorem quoted_loop (s : ByteArray) (w : World) (hs : s.size ≤ 900) (h2 : 2 ≤ s.size) (h34 : ((s[0].toNat : Int) != 34) = false) (HG : Hid (quotedGo s.data.toList = qScan (s.data.toList.drop 1) [])) :
    Calls Tryd.prog 22 #[.string s] w fun e w' => QuoRes s.data.toList e ∧ w' = w := by
  have t1 : decide ((s.size : Int) < 2) = false := decide_eq_false (by omega)
  go_enter Tryd.func22, Tryd.ntmps22
  go_wp2
  go_loop [4, 5] (fun o i => ∃ (k : Nat) (acc : ByteArray), 1 ≤ k ∧ k ≤ s.size ∧ o = .string acc ∧ i = .int .i64 k ∧ acc.size ≤ k ∧ Hid (quotedGo s.data.toList = qScan (s.data.toList.drop k) acc.data.toList)) (fun _ i => s.size - (intOf i).toNat)
  case atStart => exact ⟨1, ⟨#[]⟩, by omega, by omega, rfl, rfl, by decide, HG⟩
  case round =>
    obtain ⟨k, acc, hk1, hk, rfl, rfl, hac, HQ⟩ := hrel
    have hacl : acc.data.toList.length = acc.size := by rw [Array.length_toList]; rfl
    by_cases hlt : k < s.size
    · have hdc := drop_cons s k hlt
      have hse := size_one2 s k hlt
      have hda := data_one2 s k hlt
      by_cases c1 : (s[k].toNat : Int) = 34
      · have d1 : ((s[k].toNat : Int) == 34) = true := by simp [c1]
        by_cases hla : k = s.size - 1
        · have l1 : ((k : Int) == (s.size : Int) - 1) = true := by rw [beq_iff_eq]; omega
          by_cases h60 : acc.size ≤ 60
          · have l2 : decide ((acc.size : Int) ≤ 60) = true := decide_eq_true (by omega)
            have HR : Hid (quotedGo s.data.toList = some acc.data.toList) := by
              show _ = _
              rw [unhide HQ, hdc, qScan_q c1, drop_end s (k + 1) (by omega), if_pos ⟨rfl, by omega⟩]
            clear c1 hdc hse hda hacl hla
            go_wp2
            go_ret2
            exact ⟨⟨acc, true, rfl, fun _ => unhide HR, fun h => (by cases h), by omega⟩, rfl⟩
          · have l2 : decide ((acc.size : Int) ≤ 60) = false := decide_eq_false (by omega)
            have HR : Hid (quotedGo s.data.toList = none) := by
              show _ = _
              rw [unhide HQ, hdc, qScan_q c1, if_neg (fun h => by omega)]
            clear c1 hdc hse hda hacl hla
            go_wp2
            go_ret2
            exact ⟨⟨acc, false, rfl, fun h => (by cases h), fun _ => unhide HR, by omega⟩, rfl⟩
        · have l1 : ((k : Int) == (s.size : Int) - 1) = false := by rw [beq_eq_false_iff_ne]; omega
          have HR : Hid (quotedGo s.data.toList = none) := by
            show _ = _
            rw [unhide HQ, hdc, qScan_q c1, if_neg]
            intro h
            rw [drop_cons s (k + 1) (by omega)] at h
            simp at h
          clear c1 hdc hse hda hacl hla
          go_wp2
          go_ret2
          exact ⟨⟨acc, false, rfl, fun h => (by cases h), fun _ => unhide HR, by omega⟩, rfl⟩
      · have d1 : ((s[k].toNat : Int) == 34) = false := by simp [c1]
        by_cases c2 : (s[k].toNat : Int) = 92
        · have d2 : ((s[k].toNat : Int) == 92) = true := by simp [c2]
          by_cases hla : k + 1 < s.size
          · have l1 : decide ((s.size : Int) ≤ (k : Int) + 1) = false := decide_eq_false (by omega)
            have hdc' := drop_cons s (k + 1) hla
            have hse' := size_one2 s (k + 1) hla
            have hda' := data_one2 s (k + 1) hla
            by_cases e1 : (s[k + 1].toNat : Int) = 34
            · have f1 : ((s[k + 1].toNat : Int) != 34) = false := by simp [e1]
              have HR : Hid (quotedGo s.data.toList = qScan (s.data.toList.drop (k + 2)) (acc ++ s.extract (k + 1) (k + 2)).data.toList) := by
                show _ = _
                rw [unhide HQ, hdc, hdc', qScan_esc c2 (escB_t (Or.inl e1)), data_app2, hda']
              have HZ : Hid ((acc ++ s.extract (k + 1) (k + 2)).size ≤ k + 2) := by
                show _ ≤ _
                rw [size_app2, hse']; omega
              clear c1 c2 hdc hse hda hacl hdc' hse' hda' e1
              go_wp2
              exact ⟨⟨k + 2, _, by omega, by omega, rfl, by go_num, unhide HZ, HR⟩, by simp [intOf]; omega⟩
            · have f1 : ((s[k + 1].toNat : Int) != 34) = true := by simp [e1]
              by_cases e2 : (s[k + 1].toNat : Int) = 92
              · have f2 : ((s[k + 1].toNat : Int) != 92) = false := by simp [e2]
                have HR : Hid (quotedGo s.data.toList = qScan (s.data.toList.drop (k + 2)) (acc ++ s.extract (k + 1) (k + 2)).data.toList) := by
                  show _ = _
                  rw [unhide HQ, hdc, hdc', qScan_esc c2 (escB_t (Or.inr e2)), data_app2, hda']
                have HZ : Hid ((acc ++ s.extract (k + 1) (k + 2)).size ≤ k + 2) := by
                  show _ ≤ _
                  rw [size_app2, hse']; omega
                clear c1 c2 hdc hse hda hacl hdc' hse' hda' e1 e2
                go_wp2
                exact ⟨⟨k + 2, _, by omega, by omega, rfl, by go_num, unhide HZ, HR⟩, by simp [intOf]; omega⟩
              · have f2 : ((s[k + 1].toNat : Int) != 92) = true := by simp [e2]
                have HR : Hid (quotedGo s.data.toList = none) := by
                  show _ = _
                  rw [unhide HQ, hdc, hdc', qScan_noesc c2 (escB_f (by omega))]
                clear c1 c2 hdc hse hda hacl hdc' hse' hda' e1 e2
                go_wp2
                go_ret2
                exact ⟨⟨⟨#[]⟩, false, rfl, fun h => (by cases h), fun _ => unhide HR, by decide⟩, rfl⟩
          · have l1 : decide ((s.size : Int) ≤ (k : Int) + 1) = true := decide_eq_true (by omega)
            have HR : Hid (quotedGo s.data.toList = none) := by
              show _ = _
              rw [unhide HQ, hdc, drop_end s (k + 1) (by omega), qScan_last c2]
            clear c1 c2 hdc hse hda hacl hla
            go_wp2
            go_ret2
            exact ⟨⟨⟨#[]⟩, false, rfl, fun h => (by cases h), fun _ => unhide HR, by decide⟩, rfl⟩
        · have d2 : ((s[k].toNat : Int) == 92) = false := by simp [c2]
          have hw := byte_wrap s[k]
          cases hc : strC s[k]
          · have hc' : inB (s[k].toNat : Int) 32 126 = false := hc
            have HR : Hid (quotedGo s.data.toList = none) := by
              show _ = _
              rw [unhide HQ, hdc, qScan_out c1 c2 hc]
            clear c1 c2 hdc hse hda hacl hc
            go_wp2_with (go_at_call 28; refine (refIn_any _ _ _ _).mono ?_; rintro e w' ⟨rfl, hw⟩; subst hw)
            go_ret2
            exact ⟨⟨⟨#[]⟩, false, rfl, fun h => (by cases h), fun _ => unhide HR, by decide⟩, rfl⟩
          · have hc' : inB (s[k].toNat : Int) 32 126 = true := hc
            have HR : Hid (quotedGo s.data.toList = qScan (s.data.toList.drop (k + 1)) (acc ++ s.extract k (k + 1)).data.toList) := by
              show _ = _
              rw [unhide HQ, hdc, qScan_plain c1 c2 hc, data_app2, hda]
            have HZ : Hid ((acc ++ s.extract k (k + 1)).size ≤ k + 1) := by
              show _ ≤ _
              rw [size_app2, hse]; omega
            clear c1 c2 hdc hse hda hacl hc
            go_wp2_with (go_at_call 28; refine (refIn_any _ _ _ _).mono ?_; rintro e w' ⟨rfl, hw⟩; subst hw)
            exact ⟨⟨k + 1, _, by omega, by omega, rfl, by go_num, unhide HZ, HR⟩, by simp [intOf]; omega⟩
    · have HR : Hid (quotedGo s.data.toList = none) := by
        show _ = _
        rw [unhide HQ, drop_end s k (by omega)]; rfl
      clear hacl
      go_wp2
      go_ret2
      exact ⟨⟨⟨#[]⟩, false, rfl, fun h => (by cases h), fun _ => unhide HR, by decide⟩, rfl⟩
end Go.Proofs.YthhfahfgfcicbaaDoor

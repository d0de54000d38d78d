/- What is right of each kind of sign, and that the program's way of asking comes to the page's. No program in it. -/
import Derived.Test.YtaapeleoiclplaaDoorLexU
namespace Go.Proofs.YtaapeleoiclplaaDoor.V

/-- The number that digits spell, behind a. -/
def valN (a : Nat) (l : List UInt8) : Nat := l.foldl (fun a c => a * 10 + (c.toNat - 48)) a
theorem valN_cons (a : Nat) (c : UInt8) (l : List UInt8) : valN a (c :: l) = valN (a * 10 + (c.toNat - 48)) l := by
  unfold valN
  rw [List.foldl_cons]
theorem valN_ge : ∀ (l : List UInt8) (a : Nat), a ≤ valN a l := by
  intro l
  induction l with
  | nil => intro a; exact Nat.le_refl _
  | cons c l ih =>
    intro a
    rw [valN_cons]
    have := ih (a * 10 + (c.toNat - 48))
    omega
theorem isD_bd {c : UInt8} (h : isD c = true) : 48 ≤ c.toNat ∧ c.toNat ≤ 57 := by
  have : 48 ≤ (c.toNat : Int) ∧ (c.toNat : Int) ≤ 57 := by simpa [isD, digB] using h
  omega
theorem over_stays : ∀ (l : List UInt8) (x : Int), (l.foldl numStep (x, true)).2 = true := by
  intro l
  induction l with
  | nil => intro x; rfl
  | cons c l ih =>
    intro x
    rw [List.foldl_cons]
    have : numStep (x, true) c = (x, true) := by simp [numStep]
    rw [this]; exact ih x
theorem fold_val : ∀ (l : List UInt8) (a : Nat), l.all isD = true → a ≤ 4611686018427387904 →
    (valN a l ≤ 4611686018427387904 → l.foldl numStep ((a : Int), false) = ((valN a l : Int), false)) ∧
    (4611686018427387904 < valN a l → (l.foldl numStep ((a : Int), false)).2 = true) := by
  intro l
  induction l with
  | nil => intro a _ ha; exact ⟨fun _ => rfl, fun h => absurd h (by show ¬ 4611686018427387904 < a; omega)⟩
  | cons c l ih =>
    intro a h ha
    simp only [List.all_cons, Bool.and_eq_true] at h
    obtain ⟨hc0, hc1⟩ := isD_bd h.1
    rw [valN_cons, List.foldl_cons]
    by_cases ho : a * 10 + (c.toNat - 48) ≤ 4611686018427387904
    · have e : numStep ((a : Int), false) c = (((a * 10 + (c.toNat - 48) : Nat) : Int), false) := by
        simp only [numStep]
        rw [if_neg (by simp; omega)]
        congr 1; omega
      rw [e]; exact ih _ h.2 ho
    · have e : numStep ((a : Int), false) c = ((a : Int), true) := by
        simp only [numStep]
        rw [if_pos (Or.inr (by show _ < (a : Int); omega))]
      rw [e]
      refine ⟨fun hv => ?_, fun _ => over_stays _ _⟩
      have := valN_ge l (a * 10 + (c.toNat - 48))
      omega
theorem uint_val : ∀ (l : List UInt8) (a : Nat), l.all isD = true → a < 18446744073709551616 →
    (valN a l < 18446744073709551616 → Lib.parseUint10 a l = .ok (valN a l)) ∧
    (18446744073709551616 ≤ valN a l → Lib.parseUint10 a l = .range) := by
  intro l
  induction l with
  | nil => intro a _ ha; exact ⟨fun _ => rfl, fun h => absurd h (by show ¬ 18446744073709551616 ≤ a; omega)⟩
  | cons c l ih =>
    intro a h ha
    simp only [List.all_cons, Bool.and_eq_true] at h
    obtain ⟨hc0, hc1⟩ := isD_bd h.1
    rw [valN_cons]
    have hg := valN_ge l (a * 10 + (c.toNat - 48))
    rw [Lib.parseUint10, if_pos ⟨hc0, hc1⟩]
    by_cases h1 : 1844674407370955162 ≤ a
    · rw [if_pos h1]
      exact ⟨fun h => by omega, fun _ => rfl⟩
    · rw [if_neg h1]
      by_cases h2 : 18446744073709551616 ≤ a * 10 + (c.toNat - 48)
      · rw [if_pos h2]
        exact ⟨fun h => by omega, fun _ => rfl⟩
      · rw [if_neg h2]
        exact ih _ h.2 (by omega)

/-- What Atoi tells, held against the bounds. -/
def atoiB (l : List UInt8) : Bool := match Lib.atoiAll l with
  | .ok v => decide (-4611686018427387904 ≤ v ∧ v ≤ 4611686018427387904)
  | _ => false
theorem mag_val {d : List UInt8} (hd : d ≠ []) (h : d.all isD = true) : (valN 0 d < 18446744073709551616 → Lib.parseMag d = .ok (valN 0 d)) ∧ (18446744073709551616 ≤ valN 0 d → Lib.parseMag d = .range) := by
  unfold Lib.parseMag
  rw [if_neg hd]
  exact uint_val d 0 h (by decide)
theorem rest_val {b : Bool} {d : List UInt8} (hd : d ≠ []) (h : d.all isD = true) : (numRest b d).isSome = decide (valN 0 d ≤ 4611686018427387904) := by
  unfold numRest numFold
  obtain ⟨f1, f2⟩ := fold_val d 0 h (by decide)
  rw [show ((0 : Nat) : Int) = 0 from rfl] at f1 f2
  rw [if_neg hd, if_pos h]
  by_cases hv : valN 0 d ≤ 4611686018427387904
  · rw [f1 hv]
    simp [hv]
  · rw [if_pos (f2 (by omega))]
    simp [hv]
/-- Digits, a - ahead or not. -/
def Numeral (l : List UInt8) : Prop := ∃ d, d ≠ [] ∧ d.all isD = true ∧ (l = 45 :: d ∨ l = d)
theorem num_same {l : List UInt8} (h : Numeral l) : atoiB l = (numGo l).isSome := by
  obtain ⟨d, hd, ha, h⟩ := h
  obtain ⟨m1, m2⟩ := mag_val hd ha
  rcases h with rfl | rfl
  · have e : numGo (45 :: d) = numRest true d := by simp only [numGo]; rw [if_pos (by decide)]
    rw [e, rest_val hd ha]
    unfold atoiB
    rw [Lib.atoiAll_minus]
    by_cases hv : valN 0 d < 18446744073709551616
    · rw [m1 hv]
      by_cases hw : 9223372036854775808 < valN 0 d
      · simp only [Lib.signed]
        rw [if_pos hw]
        simp; omega
      · simp only [Lib.signed]
        rw [if_neg hw]
        simp only [decide_eq_decide]; omega
    · rw [m2 (by omega)]
      simp only [Lib.signed]
      simp; omega
  · obtain ⟨c, r, rfl⟩ : ∃ c r, l = c :: r := by
      cases l with
      | nil => exact absurd rfl hd
      | cons c r => exact ⟨c, r, rfl⟩
    have hc : 48 ≤ c.toNat ∧ c.toNat ≤ 57 := by
      simp only [List.all_cons, Bool.and_eq_true] at ha
      exact isD_bd ha.1
    have e : numGo (c :: r) = numRest false (c :: r) := by simp only [numGo]; rw [if_neg (by omega)]
    rw [e, rest_val hd ha]
    unfold atoiB
    rw [Lib.atoiAll_plain c r (by omega) (by omega)]
    by_cases hv : valN 0 (c :: r) < 18446744073709551616
    · rw [m1 hv]
      by_cases hw : 9223372036854775808 ≤ valN 0 (c :: r)
      · simp only [Lib.signless]
        rw [if_pos hw]
        simp; omega
      · simp only [Lib.signless]
        rw [if_neg hw]
        simp only [decide_eq_decide]; omega
    · rw [m2 (by omega)]
      simp only [Lib.signless]
      simp; omega

theorem scan_back : ∀ (m : Nat) {l acc t : List UInt8}, l.length ≤ m → qScan l acc = some t → ∃ r, t = acc ++ r ∧ r.all strC = true ∧ t.length ≤ 60 ∧ l = escL r ++ [34] := by
  intro m
  induction m with
  | zero =>
    intro l acc t hm h
    have : l = [] := List.eq_nil_of_length_eq_zero (by omega)
    subst this
    cases h
  | succ m ih =>
    intro l acc t hm h
    cases l with
    | nil => cases h
    | cons c l =>
      by_cases c1 : (c.toNat : Int) = 34
      · rw [qScan_q c1] at h
        split at h
        · rename_i hh
          cases h
          refine ⟨[], by simp, rfl, hh.2, ?_⟩
          rw [hh.1]
          have : c = 34 := UInt8.toNat_inj.1 (by show c.toNat = 34; omega)
          rw [this]; rfl
        · cases h
      · by_cases c2 : (c.toNat : Int) = 92
        · cases l with
          | nil => rw [qScan_last c2] at h; cases h
          | cons d q =>
            cases hd : escB d.toNat with
            | false => rw [qScan_noesc c2 hd] at h; cases h
            | true =>
              rw [qScan_esc c2 hd] at h
              obtain ⟨r, h1, h2, h3, h4⟩ := ih (by simp at hm ⊢; omega) h
              have hdd : (d.toNat : Int) = 34 ∨ (d.toNat : Int) = 92 := by simpa [escB] using hd
              refine ⟨d :: r, by rw [h1]; simp, ?_, h3, ?_⟩
              · simp only [List.all_cons, h2, Bool.and_true]
                simp only [strC, decide_eq_true_eq]; omega
              · have hc : c = 92 := UInt8.toNat_inj.1 (by show c.toNat = 92; omega)
                rw [h4, show d :: r = [d] ++ r from rfl, escL_append, escL_one_t hd, hc]; rfl
        · cases hc : strC c with
          | false => rw [qScan_out c1 c2 hc] at h; cases h
          | true =>
            rw [qScan_plain c1 c2 hc] at h
            obtain ⟨r, h1, h2, h3, h4⟩ := ih (by simp at hm ⊢; omega) h
            refine ⟨c :: r, by rw [h1]; simp, by simp [hc, h2], h3, ?_⟩
            rw [h4, show c :: r = [c] ++ r from rfl, escL_append, escL_one_f (escB_f (by omega))]; rfl
theorem quoted_back {l t : List UInt8} (h : quotedGo l = some t) : strB t = true ∧ quoteL t = l := by
  unfold quotedGo at h
  split at h
  · cases h
  · split at h
    · rename_i h2 h0
      obtain ⟨r, h3, h4, h5, h6⟩ := scan_back _ (Nat.le_refl _) h
      rw [List.nil_append] at h3
      subst h3
      refine ⟨by simp [strB, h4, h5], ?_⟩
      cases l with
      | nil => simp at h2
      | cons c l =>
        have hc : c = 34 := UInt8.toNat_inj.1 (by simpa using h0)
        simp only [List.drop_succ_cons, List.drop_zero] at h6
        rw [h6, hc]; rfl
    · cases h
theorem quo_same (r : List UInt8) : (parseL (34 :: r)).isSome = (quotedGo (34 :: r)).isSome := by
  have hn : numGo (34 :: r) = none := numGo_other (by decide) (by decide)
  cases h : quotedGo (34 :: r) with
  | some t =>
    obtain ⟨h1, h2⟩ := quoted_back h
    rw [(parse_quo hn h).1 ⟨by simp [rightB, h1], by simp [textL, h2]⟩]; rfl
  | none =>
    rw [(parse_sym hn h).2 (fun hh => by have := hh.1; simp [rightB, symB] at this; exact absurd this.2.1 (by decide))]
    rfl

/-- Is a text what its kind says? -/
def rightK (k : Int) (x : List UInt8) : Bool :=
  if k = 1 then symB x else if k = 2 then varB x else if k = 3 then (numGo x).isSome else if k = 4 then (quotedGo x).isSome else true
theorem rightK1 (x : List UInt8) : rightK 1 x = symB x := rfl
theorem rightK2 (x : List UInt8) : rightK 2 x = varB x := rfl
theorem rightK3 (x : List UInt8) : rightK 3 x = (numGo x).isSome := rfl
theorem rightK4 (x : List UInt8) : rightK 4 x = (quotedGo x).isSome := rfl
theorem rightK5 (x : List UInt8) : rightK 5 x = true := rfl

/-- What the sign looks like, by its kind. -/
theorem isD_digC : isD = digC := rfl
theorem sign_name {c : UInt8} {r : List UInt8} (h : letB c = true) : signL (c :: r) = some (if lowB c.toNat then 1 else 2, 1 + (r.takeWhile innB).length) := by
  rw [signL_cons, if_pos h]
theorem sign_num {c : UInt8} {r : List UInt8} (h : letB c = false) (h2 : (digC c || (c == 45 && headB digC r)) = true) : signL (c :: r) = some (3, 1 + (r.takeWhile digC).length) := by
  rw [signL_cons, if_neg (by simp [h]), if_pos h2]
theorem take_tw (p : UInt8 → Bool) (r : List UInt8) : r.take (r.takeWhile p).length = r.takeWhile p := by
  induction r with
  | nil => rfl
  | cons a r ih =>
    rw [List.takeWhile_cons]
    split
    · simp [ih]
    · rfl
theorem all_tw (p : UInt8 → Bool) (r : List UInt8) : (r.takeWhile p).all p = true := by
  induction r with
  | nil => rfl
  | cons a r ih =>
    rw [List.takeWhile_cons]
    split
    · rename_i h; simp [h, ih]
    · rfl
theorem numeral_of {c : UInt8} {r : List UInt8} (h2 : (digC c || (c == 45 && headB digC r)) = true) : Numeral ((c :: r).take (1 + (r.takeWhile digC).length)) := by
  rw [Nat.add_comm, List.take_succ_cons, take_tw]
  by_cases hd : digC c = true
  · exact ⟨c :: r.takeWhile digC, by simp, by rw [isD_digC, List.all_cons, hd, all_tw]; rfl, Or.inr rfl⟩
  · simp only [hd, Bool.false_or, Bool.and_eq_true, beq_iff_eq] at h2
    obtain ⟨rfl, h3⟩ := h2
    refine ⟨r.takeWhile digC, ?_, by rw [isD_digC, all_tw], Or.inl rfl⟩
    cases r with
    | nil => cases h3
    | cons d r =>
      have : digC d = true := h3
      rw [List.takeWhile_cons, if_pos this]; simp
end Go.Proofs.YtaapeleoiclplaaDoor.V

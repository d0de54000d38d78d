/- Joined: LexU LexT. -/
import Derived.Test.YtcjnhhbcleljmaaGreatDoorBasA
import Derived.Test.YtcjnhhbcleljmaaGreatDoorLexZa
namespace Go.Proofs.YtcjnhhbcleljmaaGreatDoor.V

def isD (c : UInt8) : Bool := digB c.toNat
/-- One digit more: the number so far, and whether it went beyond. -/
def numStep (p : Int × Bool) (c : UInt8) : Int × Bool :=
  if p.2 = true ∨ (4611686018427387904 - ((c.toNat : Int) - 48)) / 10 < p.1 then (p.1, true) else (10 * p.1 + ((c.toNat : Int) - 48), false)
def numFold (l : List UInt8) : Int × Bool := l.foldl numStep (0, false)
def numRest (below : Bool) (l : List UInt8) : Option Int :=
  if l = [] then none else if l.all isD = true then (if (numFold l).2 = true then none else some (if below then -(numFold l).1 else (numFold l).1)) else none
def numGo (l : List UInt8) : Option Int :=
  match l with
  | [] => none
  | c :: r => if c.toNat = 45 then numRest true r else numRest false (c :: r)

theorem numFold_snoc (l : List UInt8) (c : UInt8) : numFold (l ++ [c]) = numStep (numFold l) c := by
  unfold numFold; rw [List.foldl_append]; rfl
theorem numStep_bd {p : Int × Bool} {c : UInt8} (h0 : 0 ≤ p.1) (h1 : p.1 ≤ 4611686018427387904) (hc : isD c = true) : 0 ≤ (numStep p c).1 ∧ (numStep p c).1 ≤ 4611686018427387904 := by
  have hd : 48 ≤ (c.toNat : Int) ∧ (c.toNat : Int) ≤ 57 := by simpa [isD, digB] using hc
  unfold numStep
  split
  · exact ⟨h0, h1⟩
  · simp only; omega
theorem foldl_bd (l : List UInt8) : ∀ p : Int × Bool, 0 ≤ p.1 → p.1 ≤ 4611686018427387904 → l.all isD = true → 0 ≤ (l.foldl numStep p).1 ∧ (l.foldl numStep p).1 ≤ 4611686018427387904 := by
  induction l with
  | nil => intro p h0 h1 _; exact ⟨h0, h1⟩
  | cons c l ih =>
    intro p h0 h1 h
    simp only [List.all_cons, Bool.and_eq_true] at h
    have := numStep_bd h0 h1 h.1
    exact ih _ this.1 this.2 h.2
theorem numFold_bd (l : List UInt8) (h : l.all isD = true) : 0 ≤ (numFold l).1 ∧ (numFold l).1 ≤ 4611686018427387904 := foldl_bd l (0, false) (by decide) (by decide) h

theorem numFold_dec (u : Nat) (h : u ≤ 4611686018427387904) : numFold (Lib.decDigits u) = ((u : Int), false) := by
  induction u using Nat.strongRecOn with
  | _ u ih =>
    by_cases h10 : u < 10
    · rw [Lib.decDigits, dif_pos h10]
      simp only [numFold, List.foldl_cons, List.foldl_nil, numStep, digit_toNat h10]
      rw [if_neg (by simp; omega)]
      simp; omega
    · rw [Lib.decDigits, dif_neg h10, numFold_snoc, ih (u / 10) (by omega) (by omega)]
      have hd : u % 10 < 10 := Nat.mod_lt _ (by decide)
      simp only [numStep, digit_toNat hd]
      rw [if_neg (by simp; omega)]
      simp; omega
def qScan : List UInt8 → List UInt8 → Option (List UInt8)
  | [], _ => none
  | c :: r, acc =>
    if c.toNat = 34 then (if r = [] ∧ acc.length ≤ 60 then some acc else none)
    else if c.toNat = 92 then
      match r with
      | [] => none
      | d :: q => if escB d.toNat then qScan q (acc ++ [d]) else none
    else if strC c then qScan r (acc ++ [c]) else none
def quotedGo (l : List UInt8) : Option (List UInt8) :=
  if l.length < 2 then none else if (l[0]?.getD 0).toNat = 34 then qScan (l.drop 1) [] else none

theorem qScan_q {c : UInt8} {r acc : List UInt8} (h : (c.toNat : Int) = 34) : qScan (c :: r) acc = if r = [] ∧ acc.length ≤ 60 then some acc else none := by
  have : c.toNat = 34 := by omega
  rw [qScan.eq_def]; simp [this]
theorem qScan_last {c : UInt8} {acc : List UInt8} (h : (c.toNat : Int) = 92) : qScan [c] acc = none := by
  have : c.toNat = 92 := by omega
  rw [qScan.eq_def]; simp [this]
theorem qScan_esc {c d : UInt8} {r acc : List UInt8} (h : (c.toNat : Int) = 92) (hd : escB d.toNat = true) : qScan (c :: d :: r) acc = qScan r (acc ++ [d]) := by
  have : c.toNat = 92 := by omega
  rw [qScan.eq_def]; simp [this, hd]
theorem qScan_noesc {c d : UInt8} {r acc : List UInt8} (h : (c.toNat : Int) = 92) (hd : escB d.toNat = false) : qScan (c :: d :: r) acc = none := by
  have : c.toNat = 92 := by omega
  rw [qScan.eq_def]; simp [this, hd]
theorem qScan_plain {c : UInt8} {r acc : List UInt8} (h : ¬ (c.toNat : Int) = 34) (h' : ¬ (c.toNat : Int) = 92) (hc : strC c = true) : qScan (c :: r) acc = qScan r (acc ++ [c]) := by
  have a : ¬ c.toNat = 34 := by omega
  have b : ¬ c.toNat = 92 := by omega
  rw [qScan.eq_def]; simp [a, b, hc]
theorem qScan_out {c : UInt8} {r acc : List UInt8} (h : ¬ (c.toNat : Int) = 34) (h' : ¬ (c.toNat : Int) = 92) (hc : strC c = false) : qScan (c :: r) acc = none := by
  have a : ¬ c.toNat = 34 := by omega
  have b : ¬ c.toNat = 92 := by omega
  rw [qScan.eq_def]; simp [a, b, hc]

theorem qScan_quote (r acc : List UInt8) (h : r.all strC = true) (hl : acc.length + r.length ≤ 60) : qScan (escL r ++ [34]) acc = some (acc ++ r) := by
  induction r generalizing acc with
  | nil => rw [show escL [] ++ [34] = [34] from rfl, qScan_q (by decide)]; simp at hl; simp [hl]
  | cons c r ih =>
    simp only [List.all_cons, Bool.and_eq_true] at h
    simp only [List.length_cons] at hl
    simp only [escL]
    cases he : escB c.toNat
    · have h' : ¬ ((c.toNat : Int) = 34 ∨ (c.toNat : Int) = 92) := by simpa [escB] using he
      simp only [Bool.false_eq_true, if_false, List.cons_append]
      rw [qScan_plain (fun e => h' (Or.inl e)) (fun e => h' (Or.inr e)) h.1, ih _ h.2 (by simp; omega)]; simp
    · simp only [if_true, List.cons_append]
      rw [qScan_esc (by decide) he, ih _ h.2 (by simp; omega)]; simp
theorem quotedGo_quote (r : List UInt8) (h : strB r = true) : quotedGo (quoteL r) = some r := by
  simp only [strB, Bool.and_eq_true, decide_eq_true_eq] at h
  unfold quotedGo
  rw [if_neg (by simp [quoteL]), if_pos (by simp [quoteL])]
  simp only [quoteL, List.drop_succ_cons, List.drop_zero]
  rw [qScan_quote r [] h.2 (by simpa using h.1)]; rfl
theorem quotedGo_other {c : UInt8} {r : List UInt8} (h : c.toNat ≠ 34) : quotedGo (c :: r) = none := by
  unfold quotedGo
  split
  · rfl
  · rw [if_neg (by simpa using h)]
theorem numRest_none {b : Bool} {c : UInt8} {r : List UInt8} (h : digB c.toNat = false) : numRest b (c :: r) = none := by
  unfold numRest
  rw [if_neg (by simp), if_neg]
  simp [isD, h]
theorem numGo_other {c : UInt8} {r : List UInt8} (h : c.toNat ≠ 45) (hd : digB c.toNat = false) : numGo (c :: r) = none := by
  simp only [numGo]
  rw [if_neg h]; exact numRest_none hd
theorem dec_all (u : Nat) : (Lib.decDigits u).all isD = true := by
  induction u using Nat.strongRecOn with
  | _ u ih =>
    by_cases h10 : u < 10
    · rw [Lib.decDigits, dif_pos h10]
      simp only [List.all_cons, List.all_nil, Bool.and_true, isD, digit_toNat h10]
      exact digB_t (by omega) (by omega)
    · rw [Lib.decDigits, dif_neg h10, List.all_append, ih (u / 10) (by omega)]
      have hd : u % 10 < 10 := Nat.mod_lt _ (by decide)
      simp only [List.all_cons, List.all_nil, Bool.and_true, Bool.true_and, isD, digit_toNat hd]
      exact digB_t (by omega) (by omega)
theorem numGo_itoa (n : Int) (h0 : -4611686018427387904 ≤ n) (h1 : n ≤ 4611686018427387904) : numGo (Lib.itoa n) = some n := by
  unfold Lib.itoa
  by_cases hn : n < 0
  · rw [if_pos hn]
    simp only [numGo]
    rw [if_pos (by decide)]
    obtain ⟨c, r, e, _⟩ := dec_cons n.natAbs
    unfold numRest
    rw [if_neg (by rw [e]; simp), if_pos (dec_all _), numFold_dec _ (by omega)]
    simp; omega
  · rw [if_neg hn]
    obtain ⟨c, r, e, e1, e2⟩ := dec_cons n.toNat
    have hf := numFold_dec n.toNat (by omega)
    have ha := dec_all n.toNat
    rw [e] at hf ha ⊢
    simp only [numGo]
    rw [if_neg (by omega)]
    unfold numRest
    rw [if_neg (by simp), if_pos ha, hf]
    simp; omega
/-- What the two ways of reading come to: the value v is what l says just if it is right and written as l. -/
theorem parse_num {l : List UInt8} {x : Int} (h : numGo l = some x) : (rightB 1 x [] = true ∧ textL 1 x [] = l → parseL l = some (1, x, [])) ∧ (¬ (rightB 1 x [] = true ∧ textL 1 x [] = l) → parseL l = none) := by
  refine ⟨fun hr => by rw [← hr.2]; exact parseL_text hr.1, fun hr => ?_⟩
  cases hp : parseL l with
  | none => rfl
  | some t =>
    obtain ⟨k, n, r⟩ := t
    obtain ⟨q1, q2⟩ := parseL_back hp
    by_cases k1 : k = 1
    · subst k1
      have hb : r = [] ∧ -4611686018427387904 ≤ n ∧ n ≤ 4611686018427387904 := by simpa [rightB] using q1
      obtain ⟨rfl, n0, n1⟩ := hb
      have e : Lib.itoa n = l := by simpa [textL] using q2
      have := numGo_itoa n n0 n1
      rw [e, h] at this
      injection this with this
      subst this
      exact absurd ⟨q1, q2⟩ hr
    · by_cases k2 : k = 2
      · subst k2
        have e : r = l := by simpa [textL] using q2
        subst e
        have hs : n = 0 ∧ symB r = true := by simpa [rightB] using q1
        cases r with
        | nil => simp [symB] at hs
        | cons c q =>
          have hlo : lowB c.toNat = true := by
            have := hs.2
            simp only [symB, Bool.and_eq_true] at this
            exact this.2.1
          have hlo' : 97 ≤ (c.toNat : Int) ∧ (c.toNat : Int) ≤ 122 := by simpa [lowB] using hlo
          rw [numGo_other (by omega) (digB_f (by omega))] at h
          cases h
      · by_cases k3 : k = 3
        · subst k3
          have e : quoteL r = l := by simpa [textL] using q2
          rw [← e] at h
          simp only [quoteL] at h
          rw [numGo_other (by decide) (by decide)] at h
          cases h
        · simp [rightB, k1, k2, k3] at q1
theorem parse_quo {l t : List UInt8} (hn : numGo l = none) (h : quotedGo l = some t) : (rightB 3 0 t = true ∧ textL 3 0 t = l → parseL l = some (3, 0, t)) ∧ (¬ (rightB 3 0 t = true ∧ textL 3 0 t = l) → parseL l = none) := by
  refine ⟨fun hr => by rw [← hr.2]; exact parseL_text hr.1, fun hr => ?_⟩
  cases hp : parseL l with
  | none => rfl
  | some v =>
    obtain ⟨k, n, r⟩ := v
    obtain ⟨q1, q2⟩ := parseL_back hp
    by_cases k1 : k = 1
    · subst k1
      have hb : r = [] ∧ -4611686018427387904 ≤ n ∧ n ≤ 4611686018427387904 := by simpa [rightB] using q1
      obtain ⟨rfl, n0, n1⟩ := hb
      have e : Lib.itoa n = l := by simpa [textL] using q2
      have := numGo_itoa n n0 n1
      rw [e, hn] at this
      cases this
    · by_cases k2 : k = 2
      · subst k2
        have e : r = l := by simpa [textL] using q2
        subst e
        have hs : n = 0 ∧ symB r = true := by simpa [rightB] using q1
        cases r with
        | nil => simp [symB] at hs
        | cons c q =>
          have hlo : lowB c.toNat = true := by
            have := hs.2
            simp only [symB, Bool.and_eq_true] at this
            exact this.2.1
          have hlo' : 97 ≤ (c.toNat : Int) ∧ (c.toNat : Int) ≤ 122 := by simpa [lowB] using hlo
          rw [quotedGo_other (by omega)] at h
          cases h
      · by_cases k3 : k = 3
        · subst k3
          have e : quoteL r = l := by simpa [textL] using q2
          have hs : n = 0 ∧ strB r = true := by simpa [rightB] using q1
          have := quotedGo_quote r hs.2
          rw [e, h] at this
          injection this with this
          subst this
          obtain ⟨rfl, _⟩ := hs
          exact absurd ⟨q1, q2⟩ hr
        · simp [rightB, k1, k2, k3] at q1
theorem parse_sym {l : List UInt8} (hn : numGo l = none) (h : quotedGo l = none) : (rightB 2 0 l = true ∧ textL 2 0 l = l → parseL l = some (2, 0, l)) ∧ (¬ (rightB 2 0 l = true ∧ textL 2 0 l = l) → parseL l = none) := by
  refine ⟨fun hr => by have := parseL_text hr.1; rw [hr.2] at this; exact this, fun hr => ?_⟩
  cases hp : parseL l with
  | none => rfl
  | some v =>
    obtain ⟨k, n, r⟩ := v
    obtain ⟨q1, q2⟩ := parseL_back hp
    by_cases k1 : k = 1
    · subst k1
      have hb : r = [] ∧ -4611686018427387904 ≤ n ∧ n ≤ 4611686018427387904 := by simpa [rightB] using q1
      obtain ⟨rfl, n0, n1⟩ := hb
      have e : Lib.itoa n = l := by simpa [textL] using q2
      have := numGo_itoa n n0 n1
      rw [e, hn] at this
      cases this
    · by_cases k2 : k = 2
      · subst k2
        have e : r = l := by simpa [textL] using q2
        subst e
        have hs : n = 0 ∧ symB r = true := by simpa [rightB] using q1
        obtain ⟨rfl, _⟩ := hs
        exact absurd ⟨q1, q2⟩ hr
      · by_cases k3 : k = 3
        · subst k3
          have e : quoteL r = l := by simpa [textL] using q2
          have hs : n = 0 ∧ strB r = true := by simpa [rightB] using q1
          have := quotedGo_quote r hs.2
          rw [e, h] at this
          cases this
        · simp [rightB, k1, k2, k3] at q1

end Go.Proofs.YtcjnhhbcleljmaaGreatDoor.V
namespace Go.Proofs.YtcjnhhbcleljmaaGreatDoor.V

/-- The number that digits spell, behind a. -/
def valN (a : Nat) (l : List UInt8) : Nat := l.foldl (fun a c => a * 10 + (c.toNat - 48)) a
theorem valN_cons (a : Nat) (c : UInt8) (l : List UInt8) : valN a (c :: l) = valN (a * 10 + (c.toNat - 48)) l := by
  unfold valN
  rw [List.foldl_cons]
theorem valN_ge : ∀ (l : List UInt8) (a : Nat), a ≤ valN a l := by
  intro l
  induction l with
  | nil => intro a; exact Nat.le_refl _
  | cons c l ih =>
    intro a
    rw [valN_cons]
    have := ih (a * 10 + (c.toNat - 48))
    omega
theorem isD_bd {c : UInt8} (h : isD c = true) : 48 ≤ c.toNat ∧ c.toNat ≤ 57 := by
  have : 48 ≤ (c.toNat : Int) ∧ (c.toNat : Int) ≤ 57 := by simpa [isD, digB] using h
  omega
theorem over_stays : ∀ (l : List UInt8) (x : Int), (l.foldl numStep (x, true)).2 = true := by
  intro l
  induction l with
  | nil => intro x; rfl
  | cons c l ih =>
    intro x
    rw [List.foldl_cons]
    have : numStep (x, true) c = (x, true) := by simp [numStep]
    rw [this]; exact ih x
theorem fold_val : ∀ (l : List UInt8) (a : Nat), l.all isD = true → a ≤ 4611686018427387904 →
    (valN a l ≤ 4611686018427387904 → l.foldl numStep ((a : Int), false) = ((valN a l : Int), false)) ∧
    (4611686018427387904 < valN a l → (l.foldl numStep ((a : Int), false)).2 = true) := by
  intro l
  induction l with
  | nil => intro a _ ha; exact ⟨fun _ => rfl, fun h => absurd h (by show ¬ 4611686018427387904 < a; omega)⟩
  | cons c l ih =>
    intro a h ha
    simp only [List.all_cons, Bool.and_eq_true] at h
    obtain ⟨hc0, hc1⟩ := isD_bd h.1
    rw [valN_cons, List.foldl_cons]
    by_cases ho : a * 10 + (c.toNat - 48) ≤ 4611686018427387904
    · have e : numStep ((a : Int), false) c = (((a * 10 + (c.toNat - 48) : Nat) : Int), false) := by
        simp only [numStep]
        rw [if_neg (by simp; omega)]
        congr 1; omega
      rw [e]; exact ih _ h.2 ho
    · have e : numStep ((a : Int), false) c = ((a : Int), true) := by
        simp only [numStep]
        rw [if_pos (Or.inr (by show _ < (a : Int); omega))]
      rw [e]
      refine ⟨fun hv => ?_, fun _ => over_stays _ _⟩
      have := valN_ge l (a * 10 + (c.toNat - 48))
      omega
theorem uint_val : ∀ (l : List UInt8) (a : Nat), l.all isD = true → a < 18446744073709551616 →
    (valN a l < 18446744073709551616 → Lib.parseUint10 a l = .ok (valN a l)) ∧
    (18446744073709551616 ≤ valN a l → Lib.parseUint10 a l = .range) := by
  intro l
  induction l with
  | nil => intro a _ ha; exact ⟨fun _ => rfl, fun h => absurd h (by show ¬ 18446744073709551616 ≤ a; omega)⟩
  | cons c l ih =>
    intro a h ha
    simp only [List.all_cons, Bool.and_eq_true] at h
    obtain ⟨hc0, hc1⟩ := isD_bd h.1
    rw [valN_cons]
    have hg := valN_ge l (a * 10 + (c.toNat - 48))
    rw [Lib.parseUint10, if_pos ⟨hc0, hc1⟩]
    by_cases h1 : 1844674407370955162 ≤ a
    · rw [if_pos h1]
      exact ⟨fun h => by omega, fun _ => rfl⟩
    · rw [if_neg h1]
      by_cases h2 : 18446744073709551616 ≤ a * 10 + (c.toNat - 48)
      · rw [if_pos h2]
        exact ⟨fun h => by omega, fun _ => rfl⟩
      · rw [if_neg h2]
        exact ih _ h.2 (by omega)

/-- What Atoi tells, held against the bounds. -/
def atoiB (l : List UInt8) : Bool := match Lib.atoiAll l with
  | .ok v => decide (-4611686018427387904 ≤ v ∧ v ≤ 4611686018427387904)
  | _ => false
theorem mag_val {d : List UInt8} (hd : d ≠ []) (h : d.all isD = true) : (valN 0 d < 18446744073709551616 → Lib.parseMag d = .ok (valN 0 d)) ∧ (18446744073709551616 ≤ valN 0 d → Lib.parseMag d = .range) := by
  unfold Lib.parseMag
  rw [if_neg hd]
  exact uint_val d 0 h (by decide)
theorem rest_val {b : Bool} {d : List UInt8} (hd : d ≠ []) (h : d.all isD = true) : (numRest b d).isSome = decide (valN 0 d ≤ 4611686018427387904) := by
  unfold numRest numFold
  obtain ⟨f1, f2⟩ := fold_val d 0 h (by decide)
  rw [show ((0 : Nat) : Int) = 0 from rfl] at f1 f2
  rw [if_neg hd, if_pos h]
  by_cases hv : valN 0 d ≤ 4611686018427387904
  · rw [f1 hv]
    simp [hv]
  · rw [if_pos (f2 (by omega))]
    simp [hv]
/-- Digits, a - ahead or not. -/
def Numeral (l : List UInt8) : Prop := ∃ d, d ≠ [] ∧ d.all isD = true ∧ (l = 45 :: d ∨ l = d)
theorem num_same {l : List UInt8} (h : Numeral l) : atoiB l = (numGo l).isSome := by
  obtain ⟨d, hd, ha, h⟩ := h
  obtain ⟨m1, m2⟩ := mag_val hd ha
  rcases h with rfl | rfl
  · have e : numGo (45 :: d) = numRest true d := by simp only [numGo]; rw [if_pos (by decide)]
    rw [e, rest_val hd ha]
    unfold atoiB
    rw [Lib.atoiAll_minus]
    by_cases hv : valN 0 d < 18446744073709551616
    · rw [m1 hv]
      by_cases hw : 9223372036854775808 < valN 0 d
      · simp only [Lib.signed]
        rw [if_pos hw]
        simp; omega
      · simp only [Lib.signed]
        rw [if_neg hw]
        simp only [decide_eq_decide]; omega
    · rw [m2 (by omega)]
      simp only [Lib.signed]
      simp; omega
  · obtain ⟨c, r, rfl⟩ : ∃ c r, l = c :: r := by
      cases l with
      | nil => exact absurd rfl hd
      | cons c r => exact ⟨c, r, rfl⟩
    have hc : 48 ≤ c.toNat ∧ c.toNat ≤ 57 := by
      simp only [List.all_cons, Bool.and_eq_true] at ha
      exact isD_bd ha.1
    have e : numGo (c :: r) = numRest false (c :: r) := by simp only [numGo]; rw [if_neg (by omega)]
    rw [e, rest_val hd ha]
    unfold atoiB
    rw [Lib.atoiAll_plain c r (by omega) (by omega)]
    by_cases hv : valN 0 (c :: r) < 18446744073709551616
    · rw [m1 hv]
      by_cases hw : 9223372036854775808 ≤ valN 0 (c :: r)
      · simp only [Lib.signless]
        rw [if_pos hw]
        simp; omega
      · simp only [Lib.signless]
        rw [if_neg hw]
        simp only [decide_eq_decide]; omega
    · rw [m2 (by omega)]
      simp only [Lib.signless]
      simp; omega

theorem scan_back : ∀ (m : Nat) {l acc t : List UInt8}, l.length ≤ m → qScan l acc = some t → ∃ r, t = acc ++ r ∧ r.all strC = true ∧ t.length ≤ 60 ∧ l = escL r ++ [34] := by
  intro m
  induction m with
  | zero =>
    intro l acc t hm h
    have : l = [] := List.eq_nil_of_length_eq_zero (by omega)
    subst this
    cases h
  | succ m ih =>
    intro l acc t hm h
    cases l with
    | nil => cases h
    | cons c l =>
      by_cases c1 : (c.toNat : Int) = 34
      · rw [qScan_q c1] at h
        split at h
        · rename_i hh
          cases h
          refine ⟨[], by simp, rfl, hh.2, ?_⟩
          rw [hh.1]
          have : c = 34 := UInt8.toNat_inj.1 (by show c.toNat = 34; omega)
          rw [this]; rfl
        · cases h
      · by_cases c2 : (c.toNat : Int) = 92
        · cases l with
          | nil => rw [qScan_last c2] at h; cases h
          | cons d q =>
            cases hd : escB d.toNat with
            | false => rw [qScan_noesc c2 hd] at h; cases h
            | true =>
              rw [qScan_esc c2 hd] at h
              obtain ⟨r, h1, h2, h3, h4⟩ := ih (by simp at hm ⊢; omega) h
              have hdd : (d.toNat : Int) = 34 ∨ (d.toNat : Int) = 92 := by simpa [escB] using hd
              refine ⟨d :: r, by rw [h1]; simp, ?_, h3, ?_⟩
              · simp only [List.all_cons, h2, Bool.and_true]
                simp only [strC, decide_eq_true_eq]; omega
              · have hc : c = 92 := UInt8.toNat_inj.1 (by show c.toNat = 92; omega)
                rw [h4, show d :: r = [d] ++ r from rfl, escL_append, escL_one_t hd, hc]; rfl
        · cases hc : strC c with
          | false => rw [qScan_out c1 c2 hc] at h; cases h
          | true =>
            rw [qScan_plain c1 c2 hc] at h
            obtain ⟨r, h1, h2, h3, h4⟩ := ih (by simp at hm ⊢; omega) h
            refine ⟨c :: r, by rw [h1]; simp, by simp [hc, h2], h3, ?_⟩
            rw [h4, show c :: r = [c] ++ r from rfl, escL_append, escL_one_f (escB_f (by omega))]; rfl
theorem quoted_back {l t : List UInt8} (h : quotedGo l = some t) : strB t = true ∧ quoteL t = l := by
  unfold quotedGo at h
  split at h
  · cases h
  · split at h
    · rename_i h2 h0
      obtain ⟨r, h3, h4, h5, h6⟩ := scan_back _ (Nat.le_refl _) h
      rw [List.nil_append] at h3
      subst h3
      refine ⟨by simp [strB, h4, h5], ?_⟩
      cases l with
      | nil => simp at h2
      | cons c l =>
        have hc : c = 34 := UInt8.toNat_inj.1 (by simpa using h0)
        simp only [List.drop_succ_cons, List.drop_zero] at h6
        rw [h6, hc]; rfl
    · cases h
theorem quo_same (r : List UInt8) : (parseL (34 :: r)).isSome = (quotedGo (34 :: r)).isSome := by
  have hn : numGo (34 :: r) = none := numGo_other (by decide) (by decide)
  cases h : quotedGo (34 :: r) with
  | some t =>
    obtain ⟨h1, h2⟩ := quoted_back h
    rw [(parse_quo hn h).1 ⟨by simp [rightB, h1], by simp [textL, h2]⟩]; rfl
  | none =>
    rw [(parse_sym hn h).2 (fun hh => by have := hh.1; simp [rightB, symB] at this; exact absurd this.2.1 (by decide))]
    rfl

/-- Is a text what its kind says? -/
def rightK (k : Int) (x : List UInt8) : Bool :=
  if k = 1 then symB x else if k = 2 then varB x else if k = 3 then (numGo x).isSome else if k = 4 then (quotedGo x).isSome else true
theorem rightK1 (x : List UInt8) : rightK 1 x = symB x := rfl
theorem rightK2 (x : List UInt8) : rightK 2 x = varB x := rfl
theorem rightK3 (x : List UInt8) : rightK 3 x = (numGo x).isSome := rfl
theorem rightK4 (x : List UInt8) : rightK 4 x = (quotedGo x).isSome := rfl
theorem rightK5 (x : List UInt8) : rightK 5 x = true := rfl

/-- What the sign looks like, by its kind. -/
theorem isD_digC : isD = digC := rfl
theorem sign_name {c : UInt8} {r : List UInt8} (h : letB c = true) : signL (c :: r) = some (if lowB c.toNat then 1 else 2, 1 + (r.takeWhile innB).length) := by
  rw [signL_cons, if_pos h]
theorem sign_num {c : UInt8} {r : List UInt8} (h : letB c = false) (h2 : (digC c || (c == 45 && headB digC r)) = true) : signL (c :: r) = some (3, 1 + (r.takeWhile digC).length) := by
  rw [signL_cons, if_neg (by simp [h]), if_pos h2]
theorem take_tw (p : UInt8 → Bool) (r : List UInt8) : r.take (r.takeWhile p).length = r.takeWhile p := by
  induction r with
  | nil => rfl
  | cons a r ih =>
    rw [List.takeWhile_cons]
    split
    · simp [ih]
    · rfl
theorem all_tw (p : UInt8 → Bool) (r : List UInt8) : (r.takeWhile p).all p = true := by
  induction r with
  | nil => rfl
  | cons a r ih =>
    rw [List.takeWhile_cons]
    split
    · rename_i h; simp [h, ih]
    · rfl
theorem numeral_of {c : UInt8} {r : List UInt8} (h2 : (digC c || (c == 45 && headB digC r)) = true) : Numeral ((c :: r).take (1 + (r.takeWhile digC).length)) := by
  rw [Nat.add_comm, List.take_succ_cons, take_tw]
  by_cases hd : digC c = true
  · exact ⟨c :: r.takeWhile digC, by simp, by rw [isD_digC, List.all_cons, hd, all_tw]; rfl, Or.inr rfl⟩
  · simp only [hd, Bool.false_or, Bool.and_eq_true, beq_iff_eq] at h2
    obtain ⟨rfl, h3⟩ := h2
    refine ⟨r.takeWhile digC, ?_, by rw [isD_digC, all_tw], Or.inl rfl⟩
    cases r with
    | nil => cases h3
    | cons d r =>
      have : digC d = true := h3
      rw [List.takeWhile_cons, if_pos this]; simp
end Go.Proofs.YtcjnhhbcleljmaaGreatDoor.V

/- What the document's two readers of a text come to, number and string, and that they read what the program's do. No program in it. -/
import Derived.Test.YtaapeleoiclplaaDoorOwnQ
import Derived.Test.YtaapeleoiclplaaDoorLexS
namespace Go.Proofs.YtaapeleoiclplaaDoor.V

/-- A large letter, then letters, digits, _; 24 at the most. -/
def varB : List UInt8 → Bool
  | [] => false
  | c :: r => decide (r.length + 1 ≤ 24) && (upB c.toNat && (c :: r).all innB)
def isD (c : UInt8) : Bool := digB c.toNat
/-- One digit more: the number so far, and whether it went beyond. -/
def numStep (p : Int × Bool) (c : UInt8) : Int × Bool :=
  if p.2 = true ∨ (4611686018427387904 - ((c.toNat : Int) - 48)) / 10 < p.1 then (p.1, true) else (10 * p.1 + ((c.toNat : Int) - 48), false)
def numFold (l : List UInt8) : Int × Bool := l.foldl numStep (0, false)
def numRest (below : Bool) (l : List UInt8) : Option Int :=
  if l = [] then none else if l.all isD = true then (if (numFold l).2 = true then none else some (if below then -(numFold l).1 else (numFold l).1)) else none
def numGo (l : List UInt8) : Option Int :=
  match l with
  | [] => none
  | c :: r => if c.toNat = 45 then numRest true r else numRest false (c :: r)

theorem numFold_snoc (l : List UInt8) (c : UInt8) : numFold (l ++ [c]) = numStep (numFold l) c := by
  unfold numFold; rw [List.foldl_append]; rfl
theorem numStep_bd {p : Int × Bool} {c : UInt8} (h0 : 0 ≤ p.1) (h1 : p.1 ≤ 4611686018427387904) (hc : isD c = true) : 0 ≤ (numStep p c).1 ∧ (numStep p c).1 ≤ 4611686018427387904 := by
  have hd : 48 ≤ (c.toNat : Int) ∧ (c.toNat : Int) ≤ 57 := by simpa [isD, digB] using hc
  unfold numStep
  split
  · exact ⟨h0, h1⟩
  · simp only; omega
theorem foldl_bd (l : List UInt8) : ∀ p : Int × Bool, 0 ≤ p.1 → p.1 ≤ 4611686018427387904 → l.all isD = true → 0 ≤ (l.foldl numStep p).1 ∧ (l.foldl numStep p).1 ≤ 4611686018427387904 := by
  induction l with
  | nil => intro p h0 h1 _; exact ⟨h0, h1⟩
  | cons c l ih =>
    intro p h0 h1 h
    simp only [List.all_cons, Bool.and_eq_true] at h
    have := numStep_bd h0 h1 h.1
    exact ih _ this.1 this.2 h.2
theorem numFold_bd (l : List UInt8) (h : l.all isD = true) : 0 ≤ (numFold l).1 ∧ (numFold l).1 ≤ 4611686018427387904 := foldl_bd l (0, false) (by decide) (by decide) h

theorem numFold_dec (u : Nat) (h : u ≤ 4611686018427387904) : numFold (Lib.decDigits u) = ((u : Int), false) := by
  induction u using Nat.strongRecOn with
  | _ u ih =>
    by_cases h10 : u < 10
    · rw [Lib.decDigits, dif_pos h10]
      simp only [numFold, List.foldl_cons, List.foldl_nil, numStep, digit_toNat h10]
      rw [if_neg (by simp; omega)]
      simp; omega
    · rw [Lib.decDigits, dif_neg h10, numFold_snoc, ih (u / 10) (by omega) (by omega)]
      have hd : u % 10 < 10 := Nat.mod_lt _ (by decide)
      simp only [numStep, digit_toNat hd]
      rw [if_neg (by simp; omega)]
      simp; omega
def qScan : List UInt8 → List UInt8 → Option (List UInt8)
  | [], _ => none
  | c :: r, acc =>
    if c.toNat = 34 then (if r = [] ∧ acc.length ≤ 60 then some acc else none)
    else if c.toNat = 92 then
      match r with
      | [] => none
      | d :: q => if escB d.toNat then qScan q (acc ++ [d]) else none
    else if strC c then qScan r (acc ++ [c]) else none
def quotedGo (l : List UInt8) : Option (List UInt8) :=
  if l.length < 2 then none else if (l[0]?.getD 0).toNat = 34 then qScan (l.drop 1) [] else none

theorem qScan_q {c : UInt8} {r acc : List UInt8} (h : (c.toNat : Int) = 34) : qScan (c :: r) acc = if r = [] ∧ acc.length ≤ 60 then some acc else none := by
  have : c.toNat = 34 := by omega
  rw [qScan.eq_def]; simp [this]
theorem qScan_last {c : UInt8} {acc : List UInt8} (h : (c.toNat : Int) = 92) : qScan [c] acc = none := by
  have : c.toNat = 92 := by omega
  rw [qScan.eq_def]; simp [this]
theorem qScan_esc {c d : UInt8} {r acc : List UInt8} (h : (c.toNat : Int) = 92) (hd : escB d.toNat = true) : qScan (c :: d :: r) acc = qScan r (acc ++ [d]) := by
  have : c.toNat = 92 := by omega
  rw [qScan.eq_def]; simp [this, hd]
theorem qScan_noesc {c d : UInt8} {r acc : List UInt8} (h : (c.toNat : Int) = 92) (hd : escB d.toNat = false) : qScan (c :: d :: r) acc = none := by
  have : c.toNat = 92 := by omega
  rw [qScan.eq_def]; simp [this, hd]
theorem qScan_plain {c : UInt8} {r acc : List UInt8} (h : ¬ (c.toNat : Int) = 34) (h' : ¬ (c.toNat : Int) = 92) (hc : strC c = true) : qScan (c :: r) acc = qScan r (acc ++ [c]) := by
  have a : ¬ c.toNat = 34 := by omega
  have b : ¬ c.toNat = 92 := by omega
  rw [qScan.eq_def]; simp [a, b, hc]
theorem qScan_out {c : UInt8} {r acc : List UInt8} (h : ¬ (c.toNat : Int) = 34) (h' : ¬ (c.toNat : Int) = 92) (hc : strC c = false) : qScan (c :: r) acc = none := by
  have a : ¬ c.toNat = 34 := by omega
  have b : ¬ c.toNat = 92 := by omega
  rw [qScan.eq_def]; simp [a, b, hc]

theorem qScan_quote (r acc : List UInt8) (h : r.all strC = true) (hl : acc.length + r.length ≤ 60) : qScan (escL r ++ [34]) acc = some (acc ++ r) := by
  induction r generalizing acc with
  | nil => rw [show escL [] ++ [34] = [34] from rfl, qScan_q (by decide)]; simp at hl; simp [hl]
  | cons c r ih =>
    simp only [List.all_cons, Bool.and_eq_true] at h
    simp only [List.length_cons] at hl
    simp only [escL]
    cases he : escB c.toNat
    · have h' : ¬ ((c.toNat : Int) = 34 ∨ (c.toNat : Int) = 92) := by simpa [escB] using he
      simp only [Bool.false_eq_true, if_false, List.cons_append]
      rw [qScan_plain (fun e => h' (Or.inl e)) (fun e => h' (Or.inr e)) h.1, ih _ h.2 (by simp; omega)]; simp
    · simp only [if_true, List.cons_append]
      rw [qScan_esc (by decide) he, ih _ h.2 (by simp; omega)]; simp
theorem quotedGo_quote (r : List UInt8) (h : strB r = true) : quotedGo (quoteL r) = some r := by
  simp only [strB, Bool.and_eq_true, decide_eq_true_eq] at h
  unfold quotedGo
  rw [if_neg (by simp [quoteL]), if_pos (by simp [quoteL])]
  simp only [quoteL, List.drop_succ_cons, List.drop_zero]
  rw [qScan_quote r [] h.2 (by simpa using h.1)]; rfl
theorem quotedGo_other {c : UInt8} {r : List UInt8} (h : c.toNat ≠ 34) : quotedGo (c :: r) = none := by
  unfold quotedGo
  split
  · rfl
  · rw [if_neg (by simpa using h)]
theorem numRest_none {b : Bool} {c : UInt8} {r : List UInt8} (h : digB c.toNat = false) : numRest b (c :: r) = none := by
  unfold numRest
  rw [if_neg (by simp), if_neg]
  simp [isD, h]
theorem numGo_other {c : UInt8} {r : List UInt8} (h : c.toNat ≠ 45) (hd : digB c.toNat = false) : numGo (c :: r) = none := by
  simp only [numGo]
  rw [if_neg h]; exact numRest_none hd
theorem dec_all (u : Nat) : (Lib.decDigits u).all isD = true := by
  induction u using Nat.strongRecOn with
  | _ u ih =>
    by_cases h10 : u < 10
    · rw [Lib.decDigits, dif_pos h10]
      simp only [List.all_cons, List.all_nil, Bool.and_true, isD, digit_toNat h10]
      exact digB_t (by omega) (by omega)
    · rw [Lib.decDigits, dif_neg h10, List.all_append, ih (u / 10) (by omega)]
      have hd : u % 10 < 10 := Nat.mod_lt _ (by decide)
      simp only [List.all_cons, List.all_nil, Bool.and_true, Bool.true_and, isD, digit_toNat hd]
      exact digB_t (by omega) (by omega)
theorem numGo_itoa (n : Int) (h0 : -4611686018427387904 ≤ n) (h1 : n ≤ 4611686018427387904) : numGo (Lib.itoa n) = some n := by
  unfold Lib.itoa
  by_cases hn : n < 0
  · rw [if_pos hn]
    simp only [numGo]
    rw [if_pos (by decide)]
    obtain ⟨c, r, e, _⟩ := dec_cons n.natAbs
    unfold numRest
    rw [if_neg (by rw [e]; simp), if_pos (dec_all _), numFold_dec _ (by omega)]
    simp; omega
  · rw [if_neg hn]
    obtain ⟨c, r, e, e1, e2⟩ := dec_cons n.toNat
    have hf := numFold_dec n.toNat (by omega)
    have ha := dec_all n.toNat
    rw [e] at hf ha ⊢
    simp only [numGo]
    rw [if_neg (by omega)]
    unfold numRest
    rw [if_neg (by simp), if_pos ha, hf]
    simp; omega
/-- What the two ways of reading come to: the value v is what l says just if it is right and written as l. -/
theorem parse_num {l : List UInt8} {x : Int} (h : numGo l = some x) : (rightB 1 x [] = true ∧ textL 1 x [] = l → parseL l = some (1, x, [])) ∧ (¬ (rightB 1 x [] = true ∧ textL 1 x [] = l) → parseL l = none) := by
  refine ⟨fun hr => by rw [← hr.2]; exact parseL_text hr.1, fun hr => ?_⟩
  cases hp : parseL l with
  | none => rfl
  | some t =>
    obtain ⟨k, n, r⟩ := t
    obtain ⟨q1, q2⟩ := parseL_back hp
    by_cases k1 : k = 1
    · subst k1
      have hb : r = [] ∧ -4611686018427387904 ≤ n ∧ n ≤ 4611686018427387904 := by simpa [rightB] using q1
      obtain ⟨rfl, n0, n1⟩ := hb
      have e : Lib.itoa n = l := by simpa [textL] using q2
      have := numGo_itoa n n0 n1
      rw [e, h] at this
      injection this with this
      subst this
      exact absurd ⟨q1, q2⟩ hr
    · by_cases k2 : k = 2
      · subst k2
        have e : r = l := by simpa [textL] using q2
        subst e
        have hs : n = 0 ∧ symB r = true := by simpa [rightB] using q1
        cases r with
        | nil => simp [symB] at hs
        | cons c q =>
          have hlo : lowB c.toNat = true := by
            have := hs.2
            simp only [symB, Bool.and_eq_true] at this
            exact this.2.1
          have hlo' : 97 ≤ (c.toNat : Int) ∧ (c.toNat : Int) ≤ 122 := by simpa [lowB] using hlo
          rw [numGo_other (by omega) (digB_f (by omega))] at h
          cases h
      · by_cases k3 : k = 3
        · subst k3
          have e : quoteL r = l := by simpa [textL] using q2
          rw [← e] at h
          simp only [quoteL] at h
          rw [numGo_other (by decide) (by decide)] at h
          cases h
        · simp [rightB, k1, k2, k3] at q1
theorem parse_quo {l t : List UInt8} (hn : numGo l = none) (h : quotedGo l = some t) : (rightB 3 0 t = true ∧ textL 3 0 t = l → parseL l = some (3, 0, t)) ∧ (¬ (rightB 3 0 t = true ∧ textL 3 0 t = l) → parseL l = none) := by
  refine ⟨fun hr => by rw [← hr.2]; exact parseL_text hr.1, fun hr => ?_⟩
  cases hp : parseL l with
  | none => rfl
  | some v =>
    obtain ⟨k, n, r⟩ := v
    obtain ⟨q1, q2⟩ := parseL_back hp
    by_cases k1 : k = 1
    · subst k1
      have hb : r = [] ∧ -4611686018427387904 ≤ n ∧ n ≤ 4611686018427387904 := by simpa [rightB] using q1
      obtain ⟨rfl, n0, n1⟩ := hb
      have e : Lib.itoa n = l := by simpa [textL] using q2
      have := numGo_itoa n n0 n1
      rw [e, hn] at this
      cases this
    · by_cases k2 : k = 2
      · subst k2
        have e : r = l := by simpa [textL] using q2
        subst e
        have hs : n = 0 ∧ symB r = true := by simpa [rightB] using q1
        cases r with
        | nil => simp [symB] at hs
        | cons c q =>
          have hlo : lowB c.toNat = true := by
            have := hs.2
            simp only [symB, Bool.and_eq_true] at this
            exact this.2.1
          have hlo' : 97 ≤ (c.toNat : Int) ∧ (c.toNat : Int) ≤ 122 := by simpa [lowB] using hlo
          rw [quotedGo_other (by omega)] at h
          cases h
      · by_cases k3 : k = 3
        · subst k3
          have e : quoteL r = l := by simpa [textL] using q2
          have hs : n = 0 ∧ strB r = true := by simpa [rightB] using q1
          have := quotedGo_quote r hs.2
          rw [e, h] at this
          injection this with this
          subst this
          obtain ⟨rfl, _⟩ := hs
          exact absurd ⟨q1, q2⟩ hr
        · simp [rightB, k1, k2, k3] at q1
theorem parse_sym {l : List UInt8} (hn : numGo l = none) (h : quotedGo l = none) : (rightB 2 0 l = true ∧ textL 2 0 l = l → parseL l = some (2, 0, l)) ∧ (¬ (rightB 2 0 l = true ∧ textL 2 0 l = l) → parseL l = none) := by
  refine ⟨fun hr => by have := parseL_text hr.1; rw [hr.2] at this; exact this, fun hr => ?_⟩
  cases hp : parseL l with
  | none => rfl
  | some v =>
    obtain ⟨k, n, r⟩ := v
    obtain ⟨q1, q2⟩ := parseL_back hp
    by_cases k1 : k = 1
    · subst k1
      have hb : r = [] ∧ -4611686018427387904 ≤ n ∧ n ≤ 4611686018427387904 := by simpa [rightB] using q1
      obtain ⟨rfl, n0, n1⟩ := hb
      have e : Lib.itoa n = l := by simpa [textL] using q2
      have := numGo_itoa n n0 n1
      rw [e, hn] at this
      cases this
    · by_cases k2 : k = 2
      · subst k2
        have e : r = l := by simpa [textL] using q2
        subst e
        have hs : n = 0 ∧ symB r = true := by simpa [rightB] using q1
        obtain ⟨rfl, _⟩ := hs
        exact absurd ⟨q1, q2⟩ hr
      · by_cases k3 : k = 3
        · subst k3
          have e : quoteL r = l := by simpa [textL] using q2
          have hs : n = 0 ∧ strB r = true := by simpa [rightB] using q1
          have := quotedGo_quote r hs.2
          rw [e, h] at this
          cases this
        · simp [rightB, k1, k2, k3] at q1

end Go.Proofs.YtaapeleoiclplaaDoor.V

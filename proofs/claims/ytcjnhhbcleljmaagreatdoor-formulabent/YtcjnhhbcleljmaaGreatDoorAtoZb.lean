/- Joined: AtoU AtoV AtoW AtoX AtoY AtoK AtoJ. -/
import Derived.Test.YtcjnhhbcleljmaaGreatDoorAtoZa
import Derived.Lib.ItoaLen
import Derived.Test.YtcjnhhbcleljmaaGreatDoorLexZc
namespace Go.Proofs.YtcjnhhbcleljmaaGreatDoor.V
/-- A text that is one atom. -/
def parseA (l : List UInt8) : Option At := match lexA rightK l 0 with
  | .error _ => none
  | .ok us => match readA (us.map kt) 0 with
    | .error _ => none
    | .ok x => if x.2 = us.length then some x.1 else none
/-- Its signs. -/
def lexK (l : List UInt8) : Option (List Kt) := match lexA rightK l 0 with
  | .error _ => none
  | .ok us => some (us.map kt)
theorem lexK_some {l : List UInt8} {ks : List Kt} (h : lexK l = some ks) : ∃ us, lexA rightK l 0 = .ok us ∧ us.map kt = ks := by
  unfold lexK at h
  cases hl : lexA rightK l 0 with
  | error e => rw [hl] at h; cases h
  | ok us => rw [hl] at h; cases h; exact ⟨us, rfl, rfl⟩
theorem parseA_of {l : List UInt8} {ks : List Kt} (h : lexK l = some ks) : parseA l = (match readA ks 0 with
    | .error _ => none
    | .ok x => if x.2 = ks.length then some x.1 else none) := by
  obtain ⟨us, h1, rfl⟩ := lexK_some h
  unfold parseA
  rw [h1]
  simp only [List.length_map]
theorem parseA_text {a : At} (h : rightA a = true) : parseA (textA a) = some a := by
  obtain ⟨us, h1, h2, h3⟩ := read_text h 0
  unfold parseA
  rw [h1]
  simp only
  rw [h3]
  simp only
  rw [if_pos trivial]
theorem parseA_right {l : List UInt8} {a : At} (h : parseA l = some a) : rightA a = true := by
  unfold parseA at h
  split at h
  · cases h
  · split at h
    · cases h
    · rename_i hr
      split at h
      · cases h; exact (readA_right hr).1
      · cases h

/-- What stands behind: an end, a point, brackets, a comma, more. -/
def behindPs : Nat → List (List UInt8 × Tk)
  | 0 => []
  | 1 => [([32], 5, [46], 0)]
  | 2 => [([32], 5, [41], 0)]
  | 3 => [([32], 5, [44], 0)]
  | 4 => [([32], 5, [93], 0)]
  | _ => [([32], 5, [61, 62], 0), ([32], 1, [112], 0)]
theorem behind_good (k : Nat) : (∀ p ∈ behindPs k, Good rightK p.2 ∧ Sep p.1) ∧ Stop (glue (behindPs k)) ∧ SafeAll (behindPs k) ∧ ∀ c r, (behindPs k).map (fun p => kt p.2) = c :: r → c ≠ (5, [40]) := by
  have one : ∀ c : UInt8, singB c = true → letB c = false ∧ digC c = false ∧ c ≠ 34 → loneB c = true → c ≠ 40 →
      (∀ p ∈ ([([32], 5, [c], 0)] : List (List UInt8 × Tk)), Good rightK p.2 ∧ Sep p.1) ∧ Stop (glue [([32], 5, [c], 0)]) ∧ SafeAll [([32], 5, [c], 0)] ∧ ∀ d r, ([([32], 5, [c], 0)] : List (List UInt8 × Tk)).map (fun p => kt p.2) = d :: r → d ≠ (5, [40]) := by
    intro c h1 h2 h3 h4
    refine ⟨fun p hp => ?_, stop_cons (by decide), ⟨safe_lone h3, trivial⟩, fun d r h => ?_⟩
    · rw [List.mem_singleton.1 hp]
      exact ⟨good_mark h1 h2 0, sep_one⟩
    · have : (5, [c]) = d := (List.cons.inj h).1
      subst this
      intro e
      exact h4 (List.cons.inj (Prod.mk.inj e).2).1
  match k with
  | 0 => exact ⟨(fun p hp => by cases hp), Or.inl rfl, trivial, (fun c r h => by cases h)⟩
  | 1 => exact one 46 (by decide) ⟨by decide, by decide, by decide⟩ (by decide) (by decide)
  | 2 => exact one 41 (by decide) ⟨by decide, by decide, by decide⟩ (by decide) (by decide)
  | 3 => exact one 44 (by decide) ⟨by decide, by decide, by decide⟩ (by decide) (by decide)
  | 4 => exact one 93 (by decide) ⟨by decide, by decide, by decide⟩ (by decide) (by decide)
  | k + 5 =>
    refine ⟨fun p hp => ?_, stop_cons (by decide), ⟨⟨fun e => ?_, fun e => ?_, fun _ c hc => ?_⟩, ⟨fun _ => rfl, fun _ => rfl, fun e => ?_⟩, trivial⟩, fun c r h => ?_⟩
    · rcases List.mem_cons.1 hp with rfl | hp
      · exact ⟨⟨rfl, rfl, rfl, [], by decide⟩, sep_one⟩
      · rw [List.mem_singleton.1 hp]
        exact ⟨good_sym (by decide) 0, sep_one⟩
    · exact absurd e (by decide)
    · exact absurd e (by decide)
    · cases hc
    · exact absurd e (by decide)
    · have : ((5, [61, 62]) : Kt) = c := (List.cons.inj h).1
      subst this
      decide

/-- Texts that are none, and where that shows. -/
def badT : Nat → List UInt8
  | 0 => []
  | 1 => [80]
  | 2 => [110, 111, 116]
  | 3 => [112, 40]
  | 4 => [112, 40, 41]
  | 5 => [112, 40, 88]
  | 6 => [112, 40, 88, 32, 89, 41]
  | 7 => [112, 40, 88, 44, 41]
  | 8 => [112, 40, 88, 44, 32, 46, 41]
  | 9 => [49]
  | _ => [112, 40, 88, 93]
def badP : Nat → Nat
  | 0 => 0
  | 1 => 0
  | 2 => 0
  | 3 => 2
  | 4 => 2
  | 5 => 3
  | 6 => 3
  | 7 => 4
  | 8 => 4
  | 9 => 0
  | _ => 3
def chkBad (k : Nat) : Bool := match lexK (badT k) with
  | none => false
  | some ks => match readA ks 0 with
    | .ok _ => false
    | .error e => e == badP k
theorem bad_all : ∀ k : Fin 11, chkBad k = true := by decide
theorem bad_text {k : Nat} (h : k < 11) : ∃ us, lexA rightK (badT k) 0 = .ok us ∧ readA (us.map kt) 0 = .error (badP k) ∧ parseA (badT k) = none := by
  have hc := bad_all ⟨k, h⟩
  unfold chkBad at hc
  simp only at hc
  cases hk : lexK (badT k) with
  | none => rw [hk] at hc; cases hc
  | some ks =>
    rw [hk] at hc
    simp only at hc
    have hp := parseA_of hk
    obtain ⟨us, h1, rfl⟩ := lexK_some hk
    cases hr : readA (us.map kt) 0 with
    | ok x => rw [hr] at hc; cases hc
    | error e =>
      rw [hr] at hc hp
      have : e = badP k := by simpa using hc
      subst this
      exact ⟨us, h1, hr, hp⟩

/-- p(X, 1, "a") -/
theorem parse_wake : parseA [112, 40, 88, 44, 32, 49, 44, 32, 34, 97, 34, 41] = some ([112], [(⟨#[88]⟩, zeroV), (⟨#[]⟩, 1, 1, ⟨#[]⟩), (⟨#[]⟩, 3, 0, ⟨#[97]⟩)]) := by
  have h : lexK [112, 40, 88, 44, 32, 49, 44, 32, 34, 97, 34, 41] = some [(1, [112]), (5, [40]), (2, [88]), (5, [44]), (3, [49]), (5, [44]), (4, [34, 97, 34]), (5, [41])] := by decide
  rw [parseA_of h]
  rfl
/-- (X + (2 * Y)) z -/
theorem lex_wake : lexK [40, 88, 32, 43, 32, 40, 50, 32, 42, 32, 89, 41, 41, 32, 122] = some [(5, [40]), (2, [88]), (5, [43]), (5, [40]), (3, [50]), (5, [42]), (2, [89]), (5, [41]), (5, [41]), (1, [122])] := by decide
theorem read_wake : readE [(5, [40]), (2, [88]), (5, [43]), (5, [40]), (3, [50]), (5, [42]), (2, [89]), (5, [41]), (5, [41]), (1, [122])] 0 = .ok ([(1, ⟨#[88]⟩, zeroV), (2, ⟨#[]⟩, 1, 2, ⟨#[]⟩), (1, ⟨#[89]⟩, zeroV), (5, ⟨#[]⟩, zeroV), (3, ⟨#[]⟩, zeroV)], 9) := by rfl
theorem none_wake : readA [(5, [40]), (2, [88]), (5, [43]), (5, [40]), (3, [50]), (5, [42]), (2, [89]), (5, [41]), (5, [41]), (1, [122])] 0 = .error 0 := by rfl
theorem itoa_small {n : Nat} (h : n < 10) : Lib.itoa (n : Int) = [UInt8.ofNat (48 + n)] := by
  unfold Lib.itoa
  rw [if_neg (by omega), Int.toNat_natCast, Lib.decDigits, dif_pos h]
theorem text_wake : textX [(1, ⟨#[88]⟩, zeroV), (2, ⟨#[]⟩, 1, 2, ⟨#[]⟩), (1, ⟨#[89]⟩, zeroV), (5, ⟨#[]⟩, zeroV), (3, ⟨#[]⟩, zeroV)] = [40, 88, 32, 43, 32, 40, 50, 32, 42, 32, 89, 41, 41] := by
  show 40 :: ([88] ++ 32 :: 43 :: 32 :: ((40 :: (Lib.itoa (2 : Nat) ++ 32 :: 42 :: 32 :: ([89] ++ [41]))) ++ [41])) = _
  rw [itoa_small (by decide)]; rfl
theorem expr_wake : exprB [(1, ⟨#[88]⟩, zeroV), (2, ⟨#[]⟩, 1, 2, ⟨#[]⟩), (1, ⟨#[89]⟩, zeroV), (5, ⟨#[]⟩, zeroV), (3, ⟨#[]⟩, zeroV)] = true := by decide
theorem textA_wake : textA ([112], [(⟨#[88]⟩, zeroV), (⟨#[]⟩, 1, 1, ⟨#[]⟩), (⟨#[]⟩, 3, 0, ⟨#[97]⟩)]) = [112, 40, 88, 44, 32, 49, 44, 32, 34, 97, 34, 41] := by
  show [112] ++ 40 :: ([88] ++ 44 :: 32 :: (Lib.itoa (1 : Nat) ++ 44 :: 32 :: ([34, 97, 34] ++ [41]))) = _
  rw [itoa_small (by decide)]; rfl
end Go.Proofs.YtcjnhhbcleljmaaGreatDoor.V
namespace Go.Proofs.YtcjnhhbcleljmaaGreatDoor.V
/-- An atom's text and what stands behind it: read. -/
theorem read_behind {a : At} (h : rightA a = true) (k : Nat) : ∃ us, lexA rightK (textA a ++ glue (behindPs k)) 0 = .ok us ∧ readA (us.map kt) 0 = .ok (a, (atomK a).length) := by
  obtain ⟨g1, g2, g3, g4⟩ := behind_good k
  obtain ⟨us, h1, h2⟩ := lex_atom h g2 g3 g1 0
  refine ⟨us, h1, ?_⟩
  unfold readA
  rw [h2, List.drop_zero, readAt_atom h g4]
  simp only [Nat.zero_add]
  rw [if_pos]
  simp only [rightA, Bool.and_eq_true, decide_eq_true_eq] at h
  exact h.2.1
/-- An expression's, too. -/
theorem readE_behind {l : List Oo} (h : exprB l = true) (k : Nat) : ∃ us, lexA rightK (textX l ++ glue (behindPs k)) 0 = .ok us ∧ readE (us.map kt) 0 = .ok (l, (exprK l).length) := by
  obtain ⟨g1, g2, g3, g4⟩ := behind_good k
  obtain ⟨us, h1, h2⟩ := lex_expr h g2 g3 g1 0
  refine ⟨us, h1, ?_⟩
  rw [h2, readE_expr h]

def dg (a : Nat) : UInt8 := UInt8.ofNat (48 + a)
theorem dg_nat {a : Nat} (h : a < 10) : (dg a).toNat = 48 + a := by
  unfold dg
  show (48 + a) % 256 = 48 + a
  omega
theorem dg_dig {a : Nat} (h : a < 10) : digC (dg a) = true := by
  simp only [digC, digB, dg_nat h, decide_eq_true_eq]
  omega
theorem step_dg {x : Int} (hx : x ≤ 1000) {a : Nat} (h : a < 10) : numStep (x, false) (dg a) = (10 * x + a, false) := by
  unfold numStep
  rw [dg_nat h]
  have e : (((48 + a : Nat) : Int) - 48) = a := by omega
  simp only [e]
  rw [if_neg (by simp; omega)]
def three (a b c : Nat) : List UInt8 := [dg a, dg b, dg c]
section
variable {a b c : Nat} (ha : a < 10) (hb : b < 10) (hc : c < 10)
include ha hb hc
theorem three_dig : (three a b c).all digC = true := by simp [three, dg_dig ha, dg_dig hb, dg_dig hc]
theorem three_fold : numFold (three a b c) = (((100 * a + 10 * b + c : Nat) : Int), false) := by
  show numStep (numStep (numStep (0, false) (dg a)) (dg b)) (dg c) = _
  rw [step_dg (by omega) ha, step_dg (by omega) hb, step_dg (by omega) hc]
  congr 1
  omega
theorem nought_fold : numFold (48 :: three a b c) = (((100 * a + 10 * b + c : Nat) : Int), false) := by
  show numStep (numStep (numStep (numStep (0, false) 48) (dg a)) (dg b)) (dg c) = _
  rw [show numStep (0, false) 48 = (0, false) from rfl, step_dg (by omega) ha, step_dg (by omega) hb, step_dg (by omega) hc]
  congr 1
  omega
theorem nought_num : numGo (48 :: three a b c) = some ((100 * a + 10 * b + c : Nat) : Int) := by
  unfold numGo
  simp only
  rw [if_neg (by decide)]
  unfold numRest
  rw [if_neg (by simp), if_pos (show (48 :: three a b c).all isD = true by
    rw [List.all_cons]
    rw [show (three a b c).all isD = true from three_dig ha hb hc]; rfl), nought_fold ha hb hc]
  rfl
theorem minus_num : numGo (45 :: three a b c) = some (-((100 * a + 10 * b + c : Nat) : Int)) := by
  unfold numGo
  simp only
  rw [if_pos (by decide)]
  unfold numRest
  rw [if_neg (by simp [three]), if_pos (show (three a b c).all isD = true from three_dig ha hb hc), three_fold ha hb hc]
  rfl
theorem plain_num : numGo (three a b c) = some ((100 * a + 10 * b + c : Nat) : Int) := by
  unfold numGo
  show (if (dg a).toNat = 45 then numRest true [dg b, dg c] else numRest false (three a b c)) = _
  rw [if_neg (by rw [dg_nat ha]; omega)]
  unfold numRest
  rw [if_neg (by simp [three]), if_pos (show (three a b c).all isD = true from three_dig ha hb hc), three_fold ha hb hc]
  rfl
theorem good_nought (q : Nat) : Good rightK (3, 48 :: three a b c, q) := by
  refine ⟨by rw [rightK3, nought_num ha hb hc]; rfl, rfl, rfl, [], ?_⟩
  rw [List.append_nil, sign_num rfl rfl, tw_full (three_dig ha hb hc)]
  simp; omega
theorem good_minus (q : Nat) : Good rightK (3, 45 :: three a b c, q) := by
  refine ⟨by rw [rightK3, minus_num ha hb hc]; rfl, rfl, rfl, [], ?_⟩
  rw [List.append_nil, sign_num rfl (by simp [three, headB, dg_dig ha]), tw_full (three_dig ha hb hc)]
  simp; omega
theorem good_three (q : Nat) : Good rightK (3, three a b c, q) := by
  obtain ⟨b1, b2, b3⟩ := dig_no (dg_dig ha)
  refine ⟨by rw [rightK3, plain_num ha hb hc]; rfl, b2, b3, [], ?_⟩
  rw [List.append_nil]
  show signL (dg a :: [dg b, dg c]) = _
  rw [sign_num b1 (by simp [dg_dig ha]), tw_full (by simp [dg_dig hb, dg_dig hc])]
  rfl
/-- p(w, 0ddd, -ddd) -/
theorem parse_word {w : List UInt8} (hw : symB w = true) : parseA ([112, 40] ++ (w ++ ([44, 32, 48] ++ (three a b c ++ ([44, 32, 45] ++ (three a b c ++ [41])))))) =
    some ([112], [(⟨#[]⟩, 2, 0, ⟨w.toArray⟩), (⟨#[]⟩, 1, ((100 * a + 10 * b + c : Nat) : Int), ⟨#[]⟩), (⟨#[]⟩, 1, -((100 * a + 10 * b + c : Nat) : Int), ⟨#[]⟩)]) := by
  obtain ⟨us, h1, h2⟩ := lex_safe (R := rightK) (q := 0) (ps := [([], 1, [112], 0), ([], 5, [40], 0), ([], 1, w, 0), ([], 5, [44], 0), ([32], 3, 48 :: three a b c, 0), ([], 5, [44], 0), ([32], 3, 45 :: three a b c, 0), ([], 5, [41], 0)]) (fun p hp => by
      simp only [List.mem_cons, List.not_mem_nil, or_false] at hp
      rcases hp with rfl | rfl | rfl | rfl | rfl | rfl | rfl | rfl
      · exact ⟨good_sym (by decide) 0, sep_nil⟩
      · exact ⟨good_mark (by decide) ⟨by decide, by decide, by decide⟩ 0, sep_nil⟩
      · exact ⟨good_sym hw 0, sep_nil⟩
      · exact ⟨good_mark (by decide) ⟨by decide, by decide, by decide⟩ 0, sep_nil⟩
      · exact ⟨good_nought ha hb hc 0, sep_one⟩
      · exact ⟨good_mark (by decide) ⟨by decide, by decide, by decide⟩ 0, sep_nil⟩
      · exact ⟨good_minus ha hb hc 0, sep_one⟩
      · exact ⟨good_mark (by decide) ⟨by decide, by decide, by decide⟩ 0, sep_nil⟩)
    ⟨safe_paren, safe_lone (by decide), safe_stop (show (_ : Int) ≠ 5 by simp) (stop_cons (show stopB _ = true by decide)), safe_lone (by decide), safe_stop (show (_ : Int) ≠ 5 by simp) (stop_cons (show stopB _ = true by decide)), safe_lone (by decide), safe_stop (show (_ : Int) ≠ 5 by simp) (stop_cons (show stopB _ = true by decide)), safe_lone (by decide), trivial⟩
  have e : glue [([], 1, [112], 0), ([], 5, [40], 0), ([], 1, w, 0), ([], 5, [44], 0), ([32], 3, 48 :: three a b c, 0), ([], 5, [44], 0), ([32], 3, 45 :: three a b c, 0), ([], 5, [41], 0)] = [112, 40] ++ (w ++ ([44, 32, 48] ++ (three a b c ++ ([44, 32, 45] ++ (three a b c ++ [41]))))) := by simp [glue]
  rw [e] at h1
  have hk : lexK ([112, 40] ++ (w ++ ([44, 32, 48] ++ (three a b c ++ ([44, 32, 45] ++ (three a b c ++ [41])))))) = some [(1, [112]), (5, [40]), (1, w), (5, [44]), (3, 48 :: three a b c), (5, [44]), (3, 45 :: three a b c), (5, [41])] := by
    unfold lexK
    rw [h1]
    simp only
    rw [h2]; rfl
  rw [parseA_of hk]
  have t1 : termR (1, w) = some (⟨#[]⟩, (2, 0, ⟨w.toArray⟩)) := by simp [termR, hw]
  have t2 : termR (3, 48 :: three a b c) = some (⟨#[]⟩, 1, ((100 * a + 10 * b + c : Nat) : Int), ⟨#[]⟩) := by simp only [termR]; rw [if_neg (by decide), if_neg (by decide), if_pos trivial, nought_num ha hb hc]; rfl
  have t3 : termR (3, 45 :: three a b c) = some (⟨#[]⟩, 1, -((100 * a + 10 * b + c : Nat) : Int), ⟨#[]⟩) := by simp only [termR]; rw [if_neg (by decide), if_neg (by decide), if_pos trivial, minus_num ha hb hc]; rfl
  unfold readA
  rw [List.drop_zero]
  unfold readAt
  simp only
  rw [if_pos ⟨trivial, by decide⟩, if_pos trivial, readTs_cons, t1]
  simp only
  rw [if_pos trivial, readTs_cons, t2]
  simp only
  rw [if_pos trivial, readTs_cons, t3]
  simp
/-- (1 -ddd): the number's sign; where that shows. -/
theorem read_minus : ∃ us, lexA rightK ([40, 49, 32, 45] ++ (three a b c ++ [41])) 0 = .ok us ∧ readE (us.map kt) 0 = .error 2 := by
  obtain ⟨us, h1, h2⟩ := lex_safe (R := rightK) (q := 0) (ps := [([], 5, [40], 0), ([], 3, [49], 0), ([32], 3, 45 :: three a b c, 0), ([], 5, [41], 0)]) (fun p hp => by
      simp only [List.mem_cons, List.not_mem_nil, or_false] at hp
      rcases hp with rfl | rfl | rfl | rfl
      · exact ⟨good_mark (by decide) ⟨by decide, by decide, by decide⟩ 0, sep_nil⟩
      · exact ⟨⟨by decide, rfl, rfl, [], by decide⟩, sep_nil⟩
      · exact ⟨good_minus ha hb hc 0, sep_one⟩
      · exact ⟨good_mark (by decide) ⟨by decide, by decide, by decide⟩ 0, sep_nil⟩)
    ⟨safe_lone (by decide), safe_stop (show (_ : Int) ≠ 5 by simp) (stop_cons (show stopB _ = true by decide)), safe_stop (show (_ : Int) ≠ 5 by simp) (stop_cons (show stopB _ = true by decide)), safe_lone (by decide), trivial⟩
  have e : glue [([], 5, [40], 0), ([], 3, [49], 0), ([32], 3, 45 :: three a b c, 0), ([], 5, [41], 0)] = [40, 49, 32, 45] ++ (three a b c ++ [41]) := by simp [glue]
  rw [e] at h1
  refine ⟨us, h1, ?_⟩
  rw [h2]
  rfl
/-- (1 - ddd): three steps. -/
theorem read_less : ∃ us, lexA rightK ([40, 49, 32, 45, 32] ++ (three a b c ++ [41])) 0 = .ok us ∧ readE (us.map kt) 0 = .ok ([(2, ⟨#[]⟩, 1, 1, ⟨#[]⟩), (2, ⟨#[]⟩, 1, ((100 * a + 10 * b + c : Nat) : Int), ⟨#[]⟩), (4, ⟨#[]⟩, zeroV)], 5) := by
  obtain ⟨us, h1, h2⟩ := lex_safe (R := rightK) (q := 0) (ps := [([], 5, [40], 0), ([], 3, [49], 0), ([32], 5, [45], 0), ([32], 3, three a b c, 0), ([], 5, [41], 0)]) (fun p hp => by
      simp only [List.mem_cons, List.not_mem_nil, or_false] at hp
      rcases hp with rfl | rfl | rfl | rfl | rfl
      · exact ⟨good_mark (by decide) ⟨by decide, by decide, by decide⟩ 0, sep_nil⟩
      · exact ⟨⟨by decide, rfl, rfl, [], by decide⟩, sep_nil⟩
      · exact ⟨good_mark (by decide) ⟨by decide, by decide, by decide⟩ 0, sep_one⟩
      · exact ⟨good_three ha hb hc 0, sep_one⟩
      · exact ⟨good_mark (by decide) ⟨by decide, by decide, by decide⟩ 0, sep_nil⟩)
    ⟨safe_lone (by decide), safe_stop (show (_ : Int) ≠ 5 by simp) (stop_cons (show stopB _ = true by decide)), safe_blank, safe_stop (show (_ : Int) ≠ 5 by simp) (stop_cons (show stopB _ = true by decide)), safe_lone (by decide), trivial⟩
  have e : glue [([], 5, [40], 0), ([], 3, [49], 0), ([32], 5, [45], 0), ([32], 3, three a b c, 0), ([], 5, [41], 0)] = [40, 49, 32, 45, 32] ++ (three a b c ++ [41]) := by simp [glue]
  rw [e] at h1
  refine ⟨us, h1, ?_⟩
  rw [h2]
  have t2 : termR (3, three a b c) = some (⟨#[]⟩, 1, ((100 * a + 10 * b + c : Nat) : Int), ⟨#[]⟩) := by simp only [termR]; rw [if_neg (by decide), if_neg (by decide), if_pos trivial, plain_num ha hb hc]; rfl
  show readE [(5, [40]), (3, [49]), (5, [45]), (3, three a b c), (5, [41])] 0 = _
  unfold readE
  rw [List.drop_zero, readX_open, readX_leaf (by decide), leafX, show termR (3, [49]) = some (⟨#[]⟩, 1, 1, ⟨#[]⟩) from by decide]
  simp only [nextX]
  rw [show opK (5, [45]) = some 4 from rfl]
  simp only
  rw [readX_leaf (by simp), leafX, t2]
  simp only [closeX]
  rfl
end
/-- Words are no names: w(1). -/
def wordA : Nat → List UInt8
  | 0 => [102, 97, 99, 116]
  | 1 => [114, 117, 108, 101]
  | 2 => [112, 97, 116, 116, 101, 114, 110]
  | 3 => [110, 111, 116]
  | 4 => [97, 110, 100]
  | 5 => [111, 114]
  | 6 => [98, 101, 102, 111, 114, 101]
  | 7 => [111, 110, 99, 101]
  | 8 => [97, 108, 119, 97, 121, 115]
  | 9 => [115, 105, 110, 99, 101]
  | _ => [100, 114, 111, 112]
theorem word_all : ∀ k : Fin 11, symB (wordA k) = true ∧ (lexK (wordA k ++ [40, 49, 41])).isSome = true ∧ parseA (wordA k ++ [40, 49, 41]) = none := by decide
end Go.Proofs.YtcjnhhbcleljmaaGreatDoor.V
namespace Go.Proofs.YtcjnhhbcleljmaaGreatDoor.V
theorem sym_len {l : List UInt8} (h : symB l = true) : l.length ≤ 24 := by
  cases l with
  | nil => simp
  | cons c r =>
    simp only [symB, Bool.and_eq_true, decide_eq_true_eq] at h
    simp only [List.length_cons]; omega
theorem var_len {l : List UInt8} (h : varB l = true) : l.length ≤ 24 := by
  cases l with
  | nil => simp
  | cons c r =>
    simp only [varB, Bool.and_eq_true, decide_eq_true_eq] at h
    simp only [List.length_cons]; omega
theorem term_len {t : Bb} (h : rightT t = true) : (bytesT t).length ≤ 122 := by
  unfold rightT at h
  unfold bytesT
  by_cases h0 : t.1.size = 0
  · rw [if_pos h0] at h
    rw [if_neg (by omega)]
    unfold rightVv rightB at h
    unfold textL
    by_cases k1 : t.2.1 = 1
    · simp only [k1] at h
      have hb : t.2.2.2.data.toList = [] ∧ -4611686018427387904 ≤ t.2.2.1 ∧ t.2.2.1 ≤ 4611686018427387904 := by simpa using h
      rw [if_pos k1]
      have := Lib.itoa_length_le t.2.2.1 (by omega) (by omega)
      omega
    · rw [if_neg k1]
      by_cases k2 : t.2.1 = 2
      · simp only [k2] at h
        have hb : t.2.2.1 = 0 ∧ symB t.2.2.2.data.toList = true := by simpa using h
        rw [if_pos k2]
        have := sym_len hb.2
        omega
      · rw [if_neg k2]
        have hb : strB t.2.2.2.data.toList = true := by
          by_cases k3 : t.2.1 = 3
          · have hb : t.2.2.1 = 0 ∧ strB t.2.2.2.data.toList = true := by simpa [k3] using h
            exact hb.2
          · simp [k1, k2, k3] at h
        simp only [strB, Bool.and_eq_true, decide_eq_true_eq] at hb
        have h1 := escL_length t.2.2.2.data.toList
        have h2 : (quoteL t.2.2.2.data.toList).length = (escL t.2.2.2.data.toList).length + 2 := by simp [quoteL]
        omega
  · rw [if_neg h0, Bool.and_eq_true] at h
    rw [if_pos h0]
    have := var_len h.1
    omega
theorem args_len : ∀ {ts : List Bb}, (∀ t ∈ ts, rightT t = true) → (argsL ts).length ≤ 124 * ts.length := by
  intro ts
  induction ts with
  | nil => intro _; simp [argsL]
  | cons t r ih =>
    intro h
    have ht := term_len (h t (by simp))
    cases r with
    | nil => simp [argsL]; omega
    | cons u r =>
      have := ih (fun x hx => h x (by simp [hx]))
      rw [argsL_two]
      simp only [List.length_append, List.length_cons] at this ⊢
      omega
theorem textA_len {a : At} (h : rightA a = true) : (textA a).length ≤ 700 := by
  obtain ⟨n, ts⟩ := a
  simp only [rightA, nameB, Bool.and_eq_true, decide_eq_true_eq, List.all_eq_true] at h
  obtain ⟨⟨h1, _⟩, h2, h3⟩ := h
  have hn := sym_len h1
  have ha := args_len h3
  unfold textA
  cases ts with
  | nil => simp; omega
  | cons t r => simp only [List.length_append, List.length_cons] at ha h2 ⊢; omega
theorem textX_len {l : List Oo} (h : exprB l = true) : (textX l).length ≤ 1900 := by
  obtain ⟨⟨_, h15⟩, hr, h1⟩ := expr_iff.1 h
  have key : (∀ o ∈ l, rightO o = true) → (textX l).length ≤ 122 * l.length := by
    refine whole_ind (P := fun l => (∀ o ∈ l, rightO o = true) → (textX l).length ≤ 122 * l.length) ?_ ?_ h1
    · intro o hp hr
      rw [textX_leaf hp]
      have := term_len (term_right (hr o (by simp)) hp)
      simp; omega
    · intro x y o hx hy hp ix iy hr
      have e1 := ix (fun u hu => hr u (by simp [hu]))
      have e2 := iy (fun u hu => hr u (by simp [hu]))
      rw [textX_node hx hy hp]
      simp only [List.length_append, List.length_cons, List.length_nil]
      omega
  have := key hr
  omega
theorem behind_len (k : Nat) : (glue (behindPs k)).length ≤ 5 := by
  match k with
  | 0 => decide
  | 1 => decide
  | 2 => decide
  | 3 => decide
  | 4 => decide
  | k + 5 => show (glue [([32], 5, [61, 62], 0), ([32], 1, [112], 0)]).length ≤ 5; decide
end Go.Proofs.YtcjnhhbcleljmaaGreatDoor.V
namespace Go.Proofs.YtcjnhhbcleljmaaGreatDoor.V
theorem runD_take {l : List Oo} {n m : Nat} (h : runD n l = some m) (j : Nat) : ∃ d, runD n (l.take j) = some d := run_take h j
/-- Where the upper part begins. -/
theorem part_upper {x y : List Oo} {o : Oo} (hx : runD 0 x = some 1) (hy : runD 0 y = some 1) (hp : pushO o = false) : partL (x ++ y ++ [o]) (x.length + y.length - 1) = x.length := by
  have px := runD_pos hx
  have py := runD_pos hy
  have hl : runD 0 (x ++ y ++ [o]) = some 1 := by
    rw [run_app, run_app, hx, Option.bind_some, run_add 1 hy, Option.bind_some]
    simp [runD, stepD, hp]
  have hd : ∀ k, k ≤ y.length → dep (x ++ y ++ [o]) (x.length + k) = 1 + dep y k := by
    intro k hk
    have e : (x ++ y ++ [o]).take (x.length + k) = x ++ y.take k := by
      rw [List.append_assoc, List.take_append, List.take_of_length_le (by omega), show x.length + k - x.length = k by omega, List.take_append_of_le_length hk]
    have r := run_add 1 (dep_run hy k)
    unfold dep
    rw [e, run_app, hx, Option.bind_some, show (1 : Nat) = 0 + 1 from rfl, r]
    simp only [Option.getD_some, dep]
    omega
  have h0 := hd 0 (by omega)
  have h1 := hd y.length (Nat.le_refl _)
  have hy1 : dep y y.length = 1 := by unfold dep; rw [List.take_length, hy]; rfl
  rw [Nat.add_zero, dep_zero] at h0
  obtain ⟨a, p1, p2, p3, p4⟩ := part_spec hl (e := x.length + y.length - 1) (by simp; omega)
  rw [show x.length + y.length - 1 + 1 = x.length + y.length by omega] at p3 p4
  rw [p1]
  congr 1
  refine part_only (l := x ++ y ++ [o]) (e := x.length + y.length - 1) p2 (by omega) ?_ ?_ ?_ ?_
  · rw [show x.length + y.length - 1 + 1 = x.length + y.length by omega]; exact p3
  · rw [show x.length + y.length - 1 + 1 = x.length + y.length by omega]; exact p4
  · rw [show x.length + y.length - 1 + 1 = x.length + y.length by omega, h0, h1, hy1]
  · rw [show x.length + y.length - 1 + 1 = x.length + y.length by omega]
    intro j h2 h3
    have := hd (j - x.length) (by omega)
    rw [show x.length + (j - x.length) = j by omega] at this
    rw [this, h1, hy1]
    obtain ⟨i, hi⟩ : ∃ i, j - x.length = i + 1 := ⟨j - x.length - 1, by omega⟩
    rw [hi]
    have := dep_pos hy (show i < y.length by omega)
    omega
/-- A step that is done to two: its parts, and its text out of theirs. -/
theorem nested {l : List Oo} (h : exprB l = true) {o : Oo} {i : List Oo} (hl : l = i ++ [o]) (hp : pushO o = false) :
    ∃ x y, i = x ++ y ∧ partL l (l.length - 2) = x.length ∧ 1 ≤ x.length ∧ 1 ≤ y.length ∧ exprB x = true ∧ exprB y = true ∧ textX l = 40 :: (textX x ++ 32 :: markO o.1 :: 32 :: (textX y ++ [41])) := by
  obtain ⟨⟨_, h15⟩, hr, h1⟩ := expr_iff.1 h
  rcases split_one h1 with ⟨u, e, hu⟩ | ⟨x, y, u, e, hx, hy, hu⟩
  · rw [hl] at e
    have e2 : i = [] ∧ o = u := by
      cases i with
      | nil => exact ⟨rfl, (List.cons.inj e).1⟩
      | cons a i => simp at e
    rw [e2.2, hu] at hp
    cases hp
  · have e2 := e
    rw [hl] at e2
    obtain ⟨e3, e4⟩ := List.append_inj' e2 rfl
    have e5 : o = u := (List.cons.inj e4).1
    subst e5
    have px := runD_pos hx
    have py := runD_pos hy
    subst e
    simp only [List.length_append, List.length_singleton] at h15
    refine ⟨x, y, e3, ?_, px, py, expr_iff.2 ⟨⟨px, by omega⟩, fun u hu => hr u (by simp [hu]), hx⟩, expr_iff.2 ⟨⟨py, by omega⟩, fun u hu => hr u (by simp [hu]), hy⟩, textX_node hx hy hp⟩
    rw [show (x ++ y ++ [o]).length - 2 = x.length + y.length - 1 by simp; omega]
    exact part_upper hx hy hp
/-- A push's text is its term's. -/
theorem nested_push {l : List Oo} (h : exprB l = true) {o : Oo} {i : List Oo} (hl : l = i ++ [o]) (hp : pushO o = true) : i = [] ∧ rightT (termO o) = true ∧ textX l = bytesT (termO o) := by
  obtain ⟨_, hr, h1⟩ := expr_iff.1 h
  rcases split_one h1 with ⟨u, e, hu⟩ | ⟨x, y, u, e, hx, hy, hu⟩
  · rw [hl] at e
    have e2 : i = [] ∧ o = u := by
      cases i with
      | nil => exact ⟨rfl, (List.cons.inj e).1⟩
      | cons a i => simp at e
    obtain ⟨rfl, rfl⟩ := e2
    subst hl
    exact ⟨rfl, term_right (hr o (by simp)) hp, textX_leaf hp⟩
  · rw [hl] at e
    obtain ⟨_, e4⟩ := List.append_inj' e rfl
    have e5 : o = u := (List.cons.inj e4).1
    rw [e5, hu] at hp
    cases hp
/-- p( a term's text ) -/
theorem text_one {t : Bb} : textA ([112], [t]) = [112, 40] ++ (bytesT t ++ [41]) := by simp [textA, argsL]
end Go.Proofs.YtcjnhhbcleljmaaGreatDoor.V
namespace Go.Proofs.YtcjnhhbcleljmaaGreatDoor.V
/-- A sign that lies in memory, without its place. -/
def ktm (x : Int × ByteArray × Int × Int) : Kt := (x.1, x.2.1.data.toList)
theorem ktm_tm (S : List UInt8) (t : Tk) : ktm (tm S t) = kt t := by simp [ktm, tm, kt]
theorem ktm_map (S : List UInt8) (us : List Tk) : (us.map (tm S)).map ktm = us.map kt := by
  rw [List.map_map]
  exact List.map_congr_left (fun t _ => ktm_tm S t)
end Go.Proofs.YtcjnhhbcleljmaaGreatDoor.V
namespace Go.Proofs.YtcjnhhbcleljmaaGreatDoor.V

/-- Its text alone is read as it. -/
def soloB (t : Kt) : Bool := match lexA rightK t.2 0 with
  | .ok [u] => decide (u.1 = t.1 ∧ u.2.1 = t.2)
  | _ => false
theorem solo_lex {t : Kt} (h : soloB t = true) : ∃ p, lexA rightK t.2 0 = .ok [(t.1, t.2, p)] := by
  unfold soloB at h
  split at h
  · rename_i u hu
    obtain ⟨k, x, p⟩ := u
    obtain ⟨h1, h2⟩ : k = t.1 ∧ x = t.2 := by simpa using h
    subst h1
    exact ⟨p, by rw [hu, h2]⟩
  · cases h
theorem solo_good {t : Kt} (h : soloB t = true) : ∃ p, Good rightK (t.1, t.2, p) := by
  obtain ⟨p, hp⟩ := solo_lex h
  have h := lex_all (R := rightK) (s := t.2) t.2.length (q := 0) (Nat.zero_le _) (by omega)
  rw [List.drop_zero] at h
  exact ⟨p, (h.1 _ hp).1 _ (by simp)⟩
theorem good_solo {t : Kt} {q : Nat} (h : Good rightK (t.1, t.2, q)) : soloB t = true := by
  obtain ⟨us, h1, h2⟩ := lex_safe (R := rightK) (ps := [([], t.1, t.2, q)]) (q := 0) (fun p hp => by
    rw [List.mem_singleton.1 hp]; exact ⟨h, sep_nil⟩) ⟨⟨fun _ => rfl, fun _ => rfl, fun _ c _ => ⟨rfl, fun _ => rfl⟩⟩, trivial⟩
  have e : glue [(([] : List UInt8), t.1, t.2, q)] = t.2 := by simp [glue]
  rw [e] at h1
  unfold soloB
  rw [h1]
  cases us with
  | nil => cases h2
  | cons u us =>
    cases us with
    | cons v us => simp at h2
    | nil =>
      simp only [List.map_cons, List.map_nil, List.cons.injEq, and_true, kt, Prod.mk.injEq] at h2
      simp [h2.1, h2.2]
theorem sign_kind {x : List UInt8} {k : Int} {n : Nat} (h : signL x = some (k, n)) : k = 1 ∨ k = 2 ∨ k = 3 ∨ k = 4 ∨ k = 5 := by
  cases x with
  | nil => cases h
  | cons c r =>
    rw [signL_cons] at h
    split at h
    · have := (Prod.mk.inj (Option.some.inj h)).1
      rw [← this]; split
      · exact Or.inl rfl
      · exact Or.inr (Or.inl rfl)
    · split at h
      · have := (Prod.mk.inj (Option.some.inj h)).1; omega
      · split at h
        · simp only [Option.map_eq_some_iff] at h
          obtain ⟨m, _, e⟩ := h
          have := (Prod.mk.inj e).1; omega
        · split at h
          · have := (Prod.mk.inj (Option.some.inj h)).1; omega
          · split at h
            · have := (Prod.mk.inj (Option.some.inj h)).1; omega
            · cases h
theorem solo_kind {t : Kt} (h : soloB t = true) : (t.1 = 1 ∨ t.1 = 2 ∨ t.1 = 3 ∨ t.1 = 4 ∨ t.1 = 5) ∧ rightK t.1 t.2 = true := by
  obtain ⟨p, h1, _, _, r, h2⟩ := solo_good h
  exact ⟨sign_kind h2, h1⟩
theorem numGo_shape {l : List UInt8} {n : Int} (h : numGo l = some n) : ∃ d, d ≠ [] ∧ d.all isD = true ∧ ((l = 45 :: d ∧ numRest true d = some n) ∨ (l = d ∧ numRest false d = some n)) := by
  have hr : ∀ {b : Bool} {d : List UInt8}, numRest b d = some n → d ≠ [] ∧ d.all isD = true := by
    intro b d h
    unfold numRest at h
    split at h
    · cases h
    · rename_i hd
      split at h
      · rename_i ha; exact ⟨hd, ha⟩
      · cases h
  unfold numGo at h
  split at h
  · cases h
  · rename_i c r
    split at h
    · rename_i hc
      have : c = 45 := UInt8.toNat_inj.1 (by show c.toNat = 45; omega)
      subst this
      obtain ⟨h1, h2⟩ := hr h
      exact ⟨r, h1, h2, Or.inl ⟨rfl, h⟩⟩
    · obtain ⟨h1, h2⟩ := hr h
      exact ⟨c :: r, h1, h2, Or.inr ⟨rfl, h⟩⟩
theorem good_nums {l : List UInt8} {n : Int} (h : numGo l = some n) (q : Nat) : Good rightK (3, l, q) := by
  have hr : rightK 3 l = true := by rw [rightK3, h]; rfl
  obtain ⟨d, hd, ha, hh⟩ := numGo_shape h
  cases d with
  | nil => exact absurd rfl hd
  | cons c r =>
    simp only [List.all_cons, Bool.and_eq_true] at ha
    obtain ⟨b1, b2, b3⟩ := dig_no (show digC c = true from ha.1)
    rcases hh with ⟨rfl, _⟩ | ⟨rfl, _⟩
    · refine ⟨hr, rfl, rfl, [], ?_⟩
      rw [List.append_nil, sign_num (c := 45) (r := c :: r) rfl (by simp [headB, show digC c = true from ha.1])]
      have hw : ((c :: r).takeWhile digC).length = (c :: r).length := tw_full (by simp only [List.all_cons, Bool.and_eq_true]; exact ha)
      rw [hw]; simp; omega
    · refine ⟨hr, b2, b3, [], ?_⟩
      rw [List.append_nil, sign_num b1 (by simp [show digC c = true from ha.1]), tw_full (by exact ha.2)]
      simp; omega
theorem good_quo {l s : List UInt8} (h : quotedGo l = some s) (q : Nat) : Good rightK (4, l, q) := by
  obtain ⟨h1, h2⟩ := quoted_back h
  rw [← h2]
  exact good_str h1 q
/-- What is a term is a sign. -/
theorem termR_solo {t : Kt} {v : Bb} (h : termR t = some v) : soloB t = true := by
  obtain ⟨k, x⟩ := t
  unfold termR at h
  simp only at h
  split at h
  · rename_i hk
    subst hk
    split at h
    · rename_i hs; exact good_solo (q := 0) (good_sym hs 0)
    · cases h
  · split at h
    · rename_i hk
      subst hk
      split at h
      · rename_i hs; exact good_solo (q := 0) (good_var hs 0)
      · cases h
    · split at h
      · rename_i hk
        subst hk
        simp only [Option.map_eq_some_iff] at h
        obtain ⟨n, hn, _⟩ := h
        exact good_solo (q := 0) (good_nums hn 0)
      · split at h
        · rename_i hk
          subst hk
          simp only [Option.map_eq_some_iff] at h
          obtain ⟨n, hn, _⟩ := h
          exact good_solo (q := 0) (good_quo hn 0)
        · cases h
theorem termR_none {t : Kt} (h : soloB t = false) : termR t = none := by
  cases ht : termR t with
  | none => rfl
  | some v => rw [termR_solo ht] at h; cases h
theorem termR1 {t : Kt} (h : soloB t = true) (hk : t.1 = 1) : termR t = some (⟨#[]⟩, (2, 0, ⟨t.2.toArray⟩)) := by
  have := (solo_kind h).2
  rw [hk, rightK1] at this
  unfold termR
  rw [if_pos hk, if_pos this]
theorem termR2 {t : Kt} (h : soloB t = true) (hk : t.1 = 2) : termR t = some (⟨t.2.toArray⟩, zeroV) := by
  have := (solo_kind h).2
  rw [hk, rightK2] at this
  unfold termR
  rw [if_neg (by omega), if_pos hk, if_pos this]
theorem termR3 {t : Kt} (h : soloB t = true) (hk : t.1 = 3) : ∃ n, numGo t.2 = some n ∧ termR t = some (⟨#[]⟩, (1, n, ⟨#[]⟩)) := by
  have := (solo_kind h).2
  rw [hk, rightK3, Option.isSome_iff_exists] at this
  obtain ⟨n, hn⟩ := this
  refine ⟨n, hn, ?_⟩
  unfold termR
  rw [if_neg (by omega), if_neg (by omega), if_pos hk, hn]; rfl
theorem termR4 {t : Kt} (h : soloB t = true) (hk : t.1 = 4) : ∃ s, quotedGo t.2 = some s ∧ termR t = some (⟨#[]⟩, (3, 0, ⟨s.toArray⟩)) := by
  have := (solo_kind h).2
  rw [hk, rightK4, Option.isSome_iff_exists] at this
  obtain ⟨n, hn⟩ := this
  refine ⟨n, hn, ?_⟩
  unfold termR
  rw [if_neg (by omega), if_neg (by omega), if_neg (by omega), if_pos hk, hn]; rfl
theorem termR5 {t : Kt} (hk : t.1 = 5) : termR t = none := by
  unfold termR
  rw [if_neg (by omega), if_neg (by omega), if_neg (by omega), if_neg (by omega)]
/-- A name is a sign whose text is one. -/
theorem name_solo {t : Kt} : (t.1 = 1 ∧ nameB t.2 = true) ↔ (soloB t = true ∧ nameB t.2 = true) := by
  constructor
  · rintro ⟨h1, h2⟩
    refine ⟨?_, h2⟩
    obtain ⟨k, x⟩ := t
    simp only at h1 h2
    subst h1
    have hs : symB x = true := by
      simp only [nameB, Bool.and_eq_true] at h2; exact h2.1
    exact good_solo (q := 0) (good_sym hs 0)
  · rintro ⟨h1, h2⟩
    refine ⟨?_, h2⟩
    have hs : symB t.2 = true := by
      simp only [nameB, Bool.and_eq_true] at h2; exact h2.1
    obtain ⟨p, hp⟩ := solo_lex h1
    obtain ⟨p', hp'⟩ := solo_lex (good_solo (t := (1, t.2)) (q := 0) (good_sym hs 0))
    simp only at hp'
    rw [hp] at hp'
    have := (Except.ok.inj hp')
    simp only [List.cons.injEq, Prod.mk.injEq] at this
    exact this.1.1
/-- The number that Atoi tells. -/
theorem atoi_same {l : List UInt8} {n : Int} (h : numGo l = some n) : Lib.atoiAll l = .ok n := by
  obtain ⟨d, hd, ha, hh⟩ := numGo_shape h
  obtain ⟨m1, m2⟩ := mag_val hd ha
  obtain ⟨f1, f2⟩ := fold_val d 0 ha (by decide)
  have hv : ∀ b, numRest b d = some n → valN 0 d ≤ 4611686018427387904 ∧ n = if b then -((valN 0 d : Nat) : Int) else ((valN 0 d : Nat) : Int) := by
    intro b hb
    have hle : valN 0 d ≤ 4611686018427387904 := by
      have := rest_val (b := b) hd ha
      rw [hb] at this
      simpa using this.symm
    refine ⟨hle, ?_⟩
    unfold numRest numFold at hb
    rw [show ((0 : Nat) : Int) = 0 from rfl] at f1
    rw [if_neg hd, if_pos ha, f1 hle] at hb
    simpa using hb.symm
  rcases hh with ⟨rfl, hr⟩ | ⟨rfl, hr⟩
  · obtain ⟨hle, hn⟩ := hv _ hr
    rw [Lib.atoiAll_minus, m1 (by omega)]
    simp only [Lib.signed]
    rw [if_neg (by omega), hn]; rfl
  · obtain ⟨hle, hn⟩ := hv _ hr
    cases l with
    | nil => exact absurd rfl hd
    | cons c r =>
      have hc : 48 ≤ c.toNat ∧ c.toNat ≤ 57 := by
        simp only [List.all_cons, Bool.and_eq_true] at ha
        exact isD_bd ha.1
      rw [Lib.atoiAll_plain c r (by omega) (by omega), m1 (by omega)]
      simp only [Lib.signless]
      rw [if_neg (by omega), hn]; rfl
/-- The string that a quoted text is read as. -/
theorem parse_same {l s : List UInt8} (h : quotedGo l = some s) : parseL l = some (3, 0, s) := by
  obtain ⟨h1, h2⟩ := quoted_back h
  have := parseL_text (k := 3) (n := 0) (r := s) (by simp [rightB, h1])
  rw [show textL 3 0 s = l from by unfold textL; rw [if_neg (by decide), if_neg (by decide), h2]] at this
  exact this
end Go.Proofs.YtcjnhhbcleljmaaGreatDoor.V
namespace Go.Proofs.YtcjnhhbcleljmaaGreatDoor.V

/-- An atom's terms so far, a bracket or a comma ahead of each. -/
def upL : List Bb → List UInt8
  | [] => []
  | t :: r => 40 :: (bytesT t ++ r.flatMap (fun u => 44 :: 32 :: bytesT u))
def aheadL (k : Nat) : List UInt8 := if k = 0 then [40] else [44, 32]
theorem upL_snoc (ts : List Bb) (t : Bb) : upL (ts ++ [t]) = upL ts ++ (aheadL ts.length ++ bytesT t) := by
  cases ts with
  | nil => simp [upL, aheadL]
  | cons u r => simp [upL, aheadL]
theorem upL_next {ts : List Bb} {k : Nat} (hk : k < ts.length) : upL (ts.take (k + 1)) = upL (ts.take k) ++ (aheadL k ++ bytesT ts[k]) := by
  rw [List.take_succ_eq_append_getElem hk, upL_snoc, List.length_take, Nat.min_eq_left (by omega)]
theorem args_up : ∀ (t : Bb) (r : List Bb), argsL (t :: r) = bytesT t ++ r.flatMap (fun u => 44 :: 32 :: bytesT u) ++ [41] := by
  intro t r
  induction r generalizing t with
  | nil => simp [argsL]
  | cons u r ih => rw [argsL_two, ih]; simp
theorem textA_up (n : List UInt8) (ts : List Bb) : textA (n, ts) = n ++ (upL ts ++ (if ts.length = 0 then [] else [41])) := by
  cases ts with
  | nil => simp [textA, upL]
  | cons t r =>
    show n ++ 40 :: argsL (t :: r) = _
    rw [args_up]
    simp [upL]
theorem upL_len {ts : List Bb} (h : ∀ t ∈ ts, rightT t = true) : (upL ts).length ≤ 124 * ts.length := by
  cases ts with
  | nil => simp [upL]
  | cons t r =>
    have ht := term_len (h t (by simp))
    have hr : (r.flatMap (fun u => (44 : UInt8) :: 32 :: bytesT u)).length ≤ 124 * r.length := by
      have hr' : ∀ u ∈ r, rightT u = true := fun u hu => h u (by simp [hu])
      clear h ht
      induction r with
      | nil => simp
      | cons u r ih =>
        have h1 := term_len (hr' u (by simp))
        have h2 := ih (fun v hv => hr' v (by simp [hv]))
        simp only [List.flatMap_cons, List.length_append, List.length_cons] at h2 ⊢
        omega
    simp only [upL, List.length_cons, List.length_append]
    omega

/-- The texts that are stacked, the last one ahead. -/
abbrev leafL (o : Oo) : List UInt8 := bytesT (termO o)
abbrev nodeL (o : Oo) (x y : List UInt8) : List UInt8 := 40 :: (x ++ 32 :: markO o.1 :: 32 :: (y ++ [41]))
def stkL (l : List Oo) : List (List UInt8) := foldF leafL nodeL [] l
theorem stkL_next {l : List Oo} {k : Nat} (hk : k < l.length) : stkL (l.take (k + 1)) = stepF leafL nodeL (stkL (l.take k)) l[k] := by
  unfold stkL
  rw [List.take_succ_eq_append_getElem hk, fold_app']
  rfl
theorem stepF_push {s : List (List UInt8)} {o : Oo} (hp : pushO o = true) : stepF leafL nodeL s o = leafL o :: s := by unfold stepF; rw [if_pos hp]
theorem stepF_node {s : List (List UInt8)} {o : Oo} {x y : List UInt8} (hp : pushO o = false) : stepF leafL nodeL (y :: x :: s) o = nodeL o x y :: s := by unfold stepF; rw [if_neg (by simp [hp])]
theorem stkL_count {l : List Oo} : ∀ {s : List (List UInt8)} {m : Nat}, runD s.length l = some m → (foldF leafL nodeL s l).length = m := by
  induction l with
  | nil => intro s m h; simpa [runD, foldF] using h
  | cons o l ih =>
    intro s m h
    simp only [runD] at h
    cases hs : stepD s.length o with
    | none => rw [hs] at h; cases h
    | some d =>
      rw [hs, Option.bind_some] at h
      show (foldF leafL nodeL (stepF leafL nodeL s o) l).length = m
      refine ih ?_
      have : (stepF leafL nodeL s o).length = d := by
        unfold stepD at hs
        unfold stepF
        split at hs
        · rename_i hp
          rw [if_pos hp]
          simpa using hs
        · rename_i hp
          rw [if_neg hp]
          split at hs
          · rename_i h2
            match s, hs, h2 with
            | y :: x :: r, hs, _ => simpa using hs
            | [], _, h2 => simp at h2
            | [_], _, h2 => simp at h2
          · cases hs
      rw [this]; exact h
theorem stkL_len {l : List Oo} (h : runD 0 l = some 1) (k : Nat) : (stkL (l.take k)).length = dep l k := stkL_count (s := []) (dep_run h k)
theorem stkL_end {l : List Oo} (h : runD 0 l = some 1) : stkL l = [textX l] := foldF_val leafL nodeL [] h []
/-- How long all that is stacked is. -/
theorem stkL_size : ∀ {l : List Oo} {s : List (List UInt8)}, (∀ o ∈ l, rightO o = true) → ((foldF leafL nodeL s l).map List.length).sum ≤ (s.map List.length).sum + 122 * l.length := by
  intro l
  induction l with
  | nil => intro s _; simp [foldF]
  | cons o l ih =>
    intro s h
    have h1 := ih (s := stepF leafL nodeL s o) (fun u hu => h u (by simp [hu]))
    have h2 : ((stepF leafL nodeL s o).map List.length).sum ≤ (s.map List.length).sum + 122 := by
      unfold stepF
      split
      · rename_i hp
        have : (leafL o).length ≤ 122 := term_len (term_right (h o (by simp)) hp)
        simp only [List.map_cons, List.sum_cons]
        omega
      · match s with
        | y :: x :: r => simp only [List.map_cons, List.sum_cons, List.length_cons, List.length_append, List.length_nil]; omega
        | [] => simp
        | [_] => simp
    show ((foldF leafL nodeL (stepF leafL nodeL s o) l).map List.length).sum ≤ _
    simp only [List.length_cons]
    omega
theorem stk_one {l : List Oo} {k : Nat} (h : ∀ o ∈ l, rightO o = true) (h15 : l.length ≤ 15) : ∀ x ∈ stkL (l.take k), x.length ≤ 1900 := by
  intro x hx
  have h1 := stkL_size (l := l.take k) (s := []) (fun o ho => h o (List.mem_of_mem_take ho))
  have h2 : x.length ≤ ((stkL (l.take k)).map List.length).sum := by
    generalize stkL (l.take k) = s at hx
    clear h1
    induction s with
    | nil => cases hx
    | cons y s ih =>
      simp only [List.map_cons, List.sum_cons]
      rcases List.mem_cons.1 hx with rfl | hx
      · omega
      · have := ih hx; omega
  have h3 : (l.take k).length ≤ 15 := by simp; omega
  simp only [List.map_nil, List.sum_nil] at h1
  unfold stkL at h2
  omega

/-- A text has no more signs than bytes; none is longer. -/
theorem lex_few {s : List UInt8} {ts : List Tk} (h : lexA rightK s 0 = .ok ts) : ts.length ≤ s.length ∧ ∀ t ∈ ts, t.2.1.length ≤ s.length := by
  have hl := lex_all (R := rightK) (s := s) s.length (q := 0) (Nat.zero_le _) (by omega)
  rw [List.drop_zero] at hl
  have key : ∀ (us : List Tk) (E : Nat), Spots s E us → (us.length + E ≤ s.length ∨ us = []) ∧ ∀ t ∈ us, t.2.1.length ≤ s.length := by
    intro us
    induction us with
    | nil => intro E _; exact ⟨Or.inr rfl, fun t ht => by cases ht⟩
    | cons t us ih =>
      intro E h
      obtain ⟨h1, h2, _, h4, h5⟩ := h
      obtain ⟨h6, h7⟩ := ih _ h5
      refine ⟨Or.inl ?_, fun u hu => ?_⟩
      · rcases h6 with h6 | rfl
        · simp; omega
        · simp; omega
      · rcases List.mem_cons.1 hu with rfl | hu
        · omega
        · exact h7 u hu
  obtain ⟨h1, h2⟩ := key ts 0 (hl.1 ts h).2
  refine ⟨?_, h2⟩
  rcases h1 with h1 | rfl
  · omega
  · simp
/-- No more steps than signs. -/
theorem readX_steps : ∀ (m : Nat) {ts : List Kt} {p : Nat} {a : List Oo × List Kt × Nat}, readX m ts p = .ok a → a.1.length + a.2.1.length ≤ ts.length := by
  intro m
  have hleaf : ∀ {t : Kt} {r : List Kt} {p : Nat} {a : List Oo × List Kt × Nat}, leafX t r p = .ok a → a.1.length + a.2.1.length ≤ (t :: r).length := by
    intro t r p a h
    unfold leafX at h
    split at h
    · cases h
    · cases h; simp; omega
  induction m with
  | zero =>
    intro ts p a h
    cases ts with
    | nil => rw [readX_nil] at h; cases h
    | cons t r =>
      by_cases ht : t = (5, [40])
      · subst ht; rw [readX_zero] at h; cases h
      · rw [readX_leaf ht] at h; exact hleaf h
  | succ m ih =>
    intro ts p a h
    cases ts with
    | nil => rw [readX_nil] at h; cases h
    | cons t r =>
      by_cases ht : t = (5, [40])
      · subst ht
        rw [readX_open] at h
        cases h1 : readX m r (p + 1) with
        | error e => rw [h1] at h; cases h
        | ok x =>
          have i1 := ih h1
          obtain ⟨x1, x2, x3⟩ := x
          rw [h1] at h
          simp only at i1
          cases x2 with
          | nil => cases h
          | cons c r2 =>
            simp only [nextX] at h
            cases hc : opK c with
            | none => rw [hc] at h; cases h
            | some k =>
              rw [hc] at h
              simp only at h
              cases h2 : readX m r2 (x3 + 1) with
              | error e => rw [h2] at h; cases h
              | ok y =>
                have i2 := ih h2
                obtain ⟨y1, y2, y3⟩ := y
                rw [h2] at h
                simp only at i2
                cases y2 with
                | nil => cases h
                | cons d r3 =>
                  simp only [closeX] at h
                  split at h
                  · cases h
                    simp only [List.length_append, List.length_cons, List.length_nil] at i1 i2 ⊢
                    omega
                  · cases h
      · rw [readX_leaf ht] at h; exact hleaf h
/-- What is left stands behind the place. -/
theorem readX_rest : ∀ (m : Nat) {ks : List Kt} {p : Nat} {a : List Oo × List Kt × Nat}, readX m (ks.drop p) p = .ok a → a.2.1 = ks.drop a.2.2 ∧ p < a.2.2 ∧ a.2.2 ≤ ks.length ∧ a.1.length ≤ a.2.2 - p := by
  intro m
  have hleaf : ∀ {ks : List Kt} {t : Kt} {r : List Kt} {p : Nat} {a : List Oo × List Kt × Nat}, ks.drop p = t :: r → leafX t r p = .ok a → a.2.1 = ks.drop a.2.2 ∧ p < a.2.2 ∧ a.2.2 ≤ ks.length ∧ a.1.length ≤ a.2.2 - p := by
    intro ks t r p a hd h
    have hl : (t :: r).length = ks.length - p := by rw [← hd]; simp
    have hr : ks.drop (p + 1) = r := by rw [← List.drop_drop, hd]; rfl
    unfold leafX at h
    split at h
    · cases h
    · cases h
      simp only at *
      exact ⟨hr.symm, by omega, by simp at hl; omega, by simp⟩
  induction m with
  | zero =>
    intro ks p a h
    cases hd : ks.drop p with
    | nil => rw [hd, readX_nil] at h; cases h
    | cons t r =>
      rw [hd] at h
      by_cases ht : t = (5, [40])
      · subst ht; rw [readX_zero] at h; cases h
      · rw [readX_leaf ht] at h; exact hleaf hd h
  | succ m ih =>
    intro ks p a h
    cases hd : ks.drop p with
    | nil => rw [hd, readX_nil] at h; cases h
    | cons t r =>
      rw [hd] at h
      by_cases ht : t = (5, [40])
      · subst ht
        have hr : ks.drop (p + 1) = r := by rw [← List.drop_drop, hd]; rfl
        rw [readX_open, ← hr] at h
        cases h1 : readX m (ks.drop (p + 1)) (p + 1) with
        | error e => rw [h1] at h; cases h
        | ok x =>
          have i1 := ih h1
          obtain ⟨x1, x2, x3⟩ := x
          rw [h1] at h
          simp only at i1
          obtain ⟨j1, j2, j3, j4⟩ := i1
          cases x2 with
          | nil => cases h
          | cons c r2 =>
            have hr2 : ks.drop (x3 + 1) = r2 := by rw [← List.drop_drop, ← j1]; rfl
            simp only [nextX] at h
            cases hc : opK c with
            | none => rw [hc] at h; cases h
            | some k =>
              rw [hc] at h
              simp only at h
              rw [← hr2] at h
              cases h2 : readX m (ks.drop (x3 + 1)) (x3 + 1) with
              | error e => rw [h2] at h; cases h
              | ok y =>
                have i2 := ih h2
                obtain ⟨y1, y2, y3⟩ := y
                rw [h2] at h
                simp only at i2
                obtain ⟨l1, l2, l3, l4⟩ := i2
                cases y2 with
                | nil => cases h
                | cons d r3 =>
                  have hr3 : ks.drop (y3 + 1) = r3 := by rw [← List.drop_drop, ← l1]; rfl
                  have hl3 : (d :: r3).length = ks.length - y3 := by rw [l1]; simp
                  simp only [closeX] at h
                  split at h
                  · cases h
                    simp only at *
                    refine ⟨hr3.symm, by omega, by simp at hl3; omega, ?_⟩
                    simp only [List.length_append, List.length_cons, List.length_nil]
                    omega
                  · cases h
      · rw [readX_leaf ht] at h; exact hleaf hd h
end Go.Proofs.YtcjnhhbcleljmaaGreatDoor.V

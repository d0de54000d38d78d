/- Joined: RulP RulQ RulR RulT RulU. -/
import Derived.Test.YtcjnhhbcleljmaaGreatDoorAtoZb
namespace Go.Proofs.YtcjnhhbcleljmaaGreatDoor.V

/-- What is written ahead of what may stand there is read as itself. -/
def Snug (ps : List (List UInt8 × Tk)) : Prop := ∀ (R : List (List UInt8 × Tk)), Stop (glue R) → SafeAll R → SafeAll (ps ++ R)
def Fine (ps : List (List UInt8 × Tk)) : Prop := ∀ p ∈ ps, Good rightK p.2 ∧ Sep p.1
theorem fine_app {a b : List (List UInt8 × Tk)} (ha : Fine a) (hb : Fine b) : Fine (a ++ b) := fun p hp => by
  rcases List.mem_append.1 hp with hp | hp
  · exact ha p hp
  · exact hb p hp
theorem fine_cons {p : List UInt8 × Tk} {b : List (List UInt8 × Tk)} (hp : Good rightK p.2 ∧ Sep p.1) (hb : Fine b) : Fine (p :: b) := fun q hq => by
  rcases List.mem_cons.1 hq with rfl | hq
  · exact hp
  · exact hb q hq
theorem fine_nil : Fine [] := fun p hp => by cases hp
theorem fine_mark {s : List UInt8} (hs : Sep s) {c : UInt8} (h : singB c = true) (hd : letB c = false ∧ digC c = false ∧ c ≠ 34) : Good rightK (5, [c], 0) ∧ Sep s := ⟨good_mark h hd 0, hs⟩
/-- A mark of two bytes. -/
def pairB (x : List UInt8) : Bool := x == [33, 61] || x == [60, 61] || x == [45, 62] || x == [61, 62]
theorem good_pair {x : List UInt8} (h : pairB x = true) : Good rightK (5, x, 0) := by
  simp only [pairB, Bool.or_eq_true, beq_iff_eq] at h
  rcases h with ((rfl | rfl) | rfl) | rfl <;> exact ⟨rfl, rfl, rfl, [], by decide⟩
theorem safe_pair {x r : List UInt8} (h : pairB x = true) : Safe 5 x r := by
  refine ⟨fun e => by omega, fun e => by omega, fun _ c hc => ?_⟩
  subst hc
  simp [pairB] at h
theorem expr_snug {l : List Oo} (h : runD 0 l = some 1) (s : List UInt8) : Snug (exprPs l s) := fun _ hst hs => safe_expr h s hst hs
theorem atom_snug (a : At) (s : List UInt8) : Snug (atomPs s a) := fun _ hst hs => safe_atom a s hst hs

/-- A condition: kind, atom, how, the left one, the right one. -/
abbrev Cp := Int × At × Int × List Oo × List Oo
/-- An act: kind, name, expressions, which. -/
abbrev Ap := Int × List UInt8 × List (List Oo) × Int
/-- A rule: name, rank, conditions, acts. -/
abbrev Rp := List UInt8 × Int × List Cp × List Ap
def noA : At := ([], [])
def rightC' (c : Cp) : Bool :=
  if c.1 = 1 ∨ c.1 = 2 then rightA c.2.1 && decide (c.2.2.1 = 0 ∧ c.2.2.2.1 = [] ∧ c.2.2.2.2 = [])
  else decide (c.1 = 3) && (decide (c.2.1 = noA) && (decide (1 ≤ c.2.2.1 ∧ c.2.2.1 ≤ 4) && (exprB c.2.2.2.1 && exprB c.2.2.2.2)))
def hasN (l : List Cp) : Nat := (l.filter (fun c => decide (c.1 = 1))).length
def rightAct (n : Nat) (a : Ap) : Bool :=
  if a.1 = 1 then nameB a.2.1 && (decide (a.2.2.1.length ≤ 5) && (a.2.2.1.all exprB && decide (a.2.2.2 = 0)))
  else decide (a.1 = 2) && (decide (a.2.1 = [] ∧ a.2.2.1 = []) && decide (0 ≤ a.2.2.2 ∧ a.2.2.2 < n))
def rightR (r : Rp) : Bool :=
  nameB r.1 && (decide (-1000 ≤ r.2.1 ∧ r.2.1 ≤ 1000) && (decide (1 ≤ r.2.2.1.length ∧ r.2.2.1.length ≤ 6) && (decide ((r.2.2.1.map Prod.fst).head? = some 1) && (decide (1 ≤ r.2.2.2.length ∧ r.2.2.2.length ≤ 6) && (r.2.2.1.all rightC' && r.2.2.2.all (rightAct (hasN r.2.2.1)))))))
theorem right_iff {r : Rp} : rightR r = true ↔ nameB r.1 = true ∧ (-1000 ≤ r.2.1 ∧ r.2.1 ≤ 1000) ∧ (1 ≤ r.2.2.1.length ∧ r.2.2.1.length ≤ 6) ∧ (r.2.2.1.map Prod.fst).head? = some 1 ∧ (1 ≤ r.2.2.2.length ∧ r.2.2.2.length ≤ 6) ∧ (∀ c ∈ r.2.2.1, rightC' c = true) ∧ ∀ a ∈ r.2.2.2, rightAct (hasN r.2.2.1) a = true := by
  simp only [rightR, Bool.and_eq_true, decide_eq_true_eq, List.all_eq_true]

def howL (h : Int) : List UInt8 := if h = 1 then [61] else if h = 2 then [33, 61] else if h = 3 then [60] else [60, 61]
/-- Some with commas between: each one's signs, what stands ahead of the first one, of the others. -/
def commaPs {α : Type} (f : List UInt8 → α → List (List UInt8 × Tk)) : List UInt8 → List α → List (List UInt8 × Tk)
  | _, [] => []
  | s, a :: r => f s a ++ (match r with
    | [] => []
    | _ :: _ => ([], 5, [44], 0) :: commaPs f [32] r)
theorem commaPs_two {α : Type} (f : List UInt8 → α → List (List UInt8 × Tk)) (s : List UInt8) (a b : α) (r : List α) : commaPs f s (a :: b :: r) = f s a ++ ([], 5, [44], 0) :: commaPs f [32] (b :: r) := rfl
theorem commaPs_one {α : Type} (f : List UInt8 → α → List (List UInt8 × Tk)) (s : List UInt8) (a : α) : commaPs f s [a] = f s a := by simp [commaPs]
theorem comma_fine {α : Type} {f : List UInt8 → α → List (List UInt8 × Tk)} : ∀ {l : List α} {s : List UInt8}, Sep s → (∀ a ∈ l, ∀ s, Sep s → Fine (f s a)) → Fine (commaPs f s l) := by
  intro l
  induction l with
  | nil => intro s _ _; exact fine_nil
  | cons a r ih =>
    intro s hs h
    cases r with
    | nil => rw [commaPs_one]; exact h a (by simp) s hs
    | cons b r =>
      rw [commaPs_two]
      exact fine_app (h a (by simp) s hs) (fine_cons (fine_mark sep_nil (by decide) ⟨by decide, by decide, by decide⟩) (ih sep_one (fun x hx => h x (by simp [hx]))))
theorem comma_snug {α : Type} {f : List UInt8 → α → List (List UInt8 × Tk)} : ∀ {l : List α} {s : List UInt8}, (∀ a ∈ l, ∀ s, Snug (f s a)) → Snug (commaPs f s l) := by
  intro l
  induction l with
  | nil => intro s _ R _ hs; exact hs
  | cons a r ih =>
    intro s h R hst hs
    cases r with
    | nil => rw [commaPs_one]; exact h a (by simp) s _ hst hs
    | cons b r =>
      rw [commaPs_two, List.append_assoc]
      exact h a (by simp) s _ (stop_cons (show stopB 44 = true by decide)) ⟨safe_lone (by decide), ih (s := [32]) (fun x hx => h x (by simp [hx])) _ hst hs⟩

def wordNot : List UInt8 := [110, 111, 116]
def wordRule : List UInt8 := [114, 117, 108, 101]
def wordDrop : List UInt8 := [100, 114, 111, 112]
def condPs (s : List UInt8) (c : Cp) : List (List UInt8 × Tk) :=
  if c.1 = 1 then atomPs s c.2.1
  else if c.1 = 2 then (s, 1, wordNot, 0) :: atomPs [32] c.2.1
  else (s, 5, [91], 0) :: (exprPs c.2.2.2.1 [] ++ ([32], 5, howL c.2.2.1, 0) :: (exprPs c.2.2.2.2 [32] ++ [([], 5, [93], 0)]))
def actPs (s : List UInt8) (a : Ap) : List (List UInt8 × Tk) :=
  if a.1 = 1 then (s, 5, [43], 0) :: ([], 1, a.2.1, 0) :: (match a.2.2.1 with
    | [] => []
    | _ :: _ => ([], 5, [40], 0) :: (commaPs (fun s l => exprPs l s) [] a.2.2.1 ++ [([], 5, [41], 0)]))
  else [(s, 1, wordDrop, 0), ([32], 3, Lib.itoa a.2.2.2, 0)]
def rulePs (r : Rp) : List (List UInt8 × Tk) :=
  ([], 1, wordRule, 0) :: ([32], 1, r.1, 0) :: ([32], 3, Lib.itoa r.2.1, 0) :: ([], 5, [58], 0) ::
    (commaPs condPs [32] r.2.2.1 ++ ([32], 5, [45, 62], 0) :: (commaPs actPs [32] r.2.2.2 ++ [([], 5, [46], 0)]))
theorem how_good {h : Int} (_h1 : 1 ≤ h ∧ h ≤ 4) : Good rightK (5, howL h, 0) := by
  unfold howL
  split
  · exact good_mark (by decide) ⟨by decide, by decide, by decide⟩ 0
  · split
    · exact good_pair (by decide)
    · split
      · exact good_mark (by decide) ⟨by decide, by decide, by decide⟩ 0
      · exact good_pair (by decide)
theorem how_safe {h : Int} {r : List UInt8} : Safe 5 (howL h) (32 :: r) := by
  unfold howL
  split
  · exact safe_blank
  · split
    · exact safe_pair (by decide)
    · split
      · exact safe_blank
      · exact safe_pair (by decide)
theorem cond_fine {c : Cp} (h : rightC' c = true) (s : List UInt8) (hs : Sep s) : Fine (condPs s c) := by
  unfold rightC' at h
  unfold condPs
  by_cases h1 : c.1 = 1
  · rw [if_pos (Or.inl h1), Bool.and_eq_true] at h
    rw [if_pos h1]
    exact good_atom h.1 hs
  · rw [if_neg h1]
    by_cases h2 : c.1 = 2
    · rw [if_pos (Or.inr h2), Bool.and_eq_true] at h
      rw [if_pos h2]
      exact fine_cons ⟨good_sym (show symB wordNot = true by decide) 0, hs⟩ (good_atom h.1 sep_one)
    · rw [if_neg (by omega)] at h
      rw [if_neg h2]
      simp only [Bool.and_eq_true, decide_eq_true_eq] at h
      obtain ⟨_, _, hh, hl, hr⟩ := h
      obtain ⟨_, l1, l2⟩ := expr_iff.1 hl
      obtain ⟨_, r1, r2⟩ := expr_iff.1 hr
      exact fine_cons (fine_mark hs (by decide) ⟨by decide, by decide, by decide⟩) (fine_app (good_expr l2 l1 sep_nil) (fine_cons ⟨how_good hh, sep_one⟩ (fine_app (good_expr r2 r1 sep_one) (fine_cons (fine_mark sep_nil (by decide) ⟨by decide, by decide, by decide⟩) fine_nil))))
theorem cond_snug {c : Cp} (h : rightC' c = true) (s : List UInt8) : Snug (condPs s c) := by
  unfold rightC' at h
  unfold condPs
  by_cases h1 : c.1 = 1
  · rw [if_pos h1]; exact atom_snug c.2.1 s
  · rw [if_neg h1]
    by_cases h2 : c.1 = 2
    · rw [if_pos h2]
      intro R hst hs
      refine ⟨safe_stop (show (1 : Int) ≠ 5 by decide) ?_, atom_snug c.2.1 [32] _ hst hs⟩
      show Stop (glue (atomPs [32] c.2.1 ++ R))
      rw [glue_app, glue_atom]
      exact stop_cons (show stopB 32 = true by decide)
    · rw [if_neg (by omega)] at h
      rw [if_neg h2]
      simp only [Bool.and_eq_true, decide_eq_true_eq] at h
      obtain ⟨_, _, hh, hl, hr⟩ := h
      obtain ⟨_, l1, l2⟩ := expr_iff.1 hl
      obtain ⟨_, r1, r2⟩ := expr_iff.1 hr
      intro R hst hs
      simp only [List.cons_append, List.append_assoc, List.nil_append]
      refine ⟨safe_lone (by decide), safe_expr l2 [] (stop_cons (show stopB 32 = true by decide)) ⟨?_, safe_expr r2 [32] (stop_cons (show stopB 93 = true by decide)) ⟨safe_lone (by decide), hs⟩⟩⟩
      rw [glue_app, glue_expr r2]
      exact how_safe
theorem act_fine {n : Nat} (hn : n ≤ 6) {a : Ap} (h : rightAct n a = true) (s : List UInt8) (hs : Sep s) : Fine (actPs s a) := by
  unfold rightAct at h
  unfold actPs
  by_cases h1 : a.1 = 1
  · rw [if_pos h1] at h ⊢
    simp only [Bool.and_eq_true, decide_eq_true_eq, List.all_eq_true] at h
    obtain ⟨h2, h3, h4, h5⟩ := h
    have hsym : symB a.2.1 = true := by
      simp only [nameB, Bool.and_eq_true] at h2
      exact h2.1
    refine fine_cons (fine_mark hs (by decide) ⟨by decide, by decide, by decide⟩) (fine_cons ⟨good_sym hsym 0, sep_nil⟩ ?_)
    cases hl : a.2.2.1 with
    | nil => exact fine_nil
    | cons x r =>
      refine fine_cons (fine_mark sep_nil (by decide) ⟨by decide, by decide, by decide⟩) (fine_app (comma_fine sep_nil (fun y hy s hs => ?_)) (fine_cons (fine_mark sep_nil (by decide) ⟨by decide, by decide, by decide⟩) fine_nil))
      obtain ⟨_, r1, r2⟩ := expr_iff.1 (h4 y (by rw [hl]; exact hy))
      exact good_expr r2 r1 hs
  · rw [if_neg h1] at h ⊢
    simp only [Bool.and_eq_true, decide_eq_true_eq] at h
    exact fine_cons ⟨good_sym (show symB wordDrop = true by decide) 0, hs⟩ (fine_cons ⟨good_num (by omega) (by omega) 0, sep_one⟩ fine_nil)
theorem act_snug {n : Nat} {a : Ap} (h : rightAct n a = true) (s : List UInt8) : Snug (actPs s a) := by
  unfold rightAct at h
  unfold actPs
  by_cases h1 : a.1 = 1
  · rw [if_pos h1] at h ⊢
    simp only [Bool.and_eq_true, decide_eq_true_eq, List.all_eq_true] at h
    obtain ⟨h2, h3, h4, h5⟩ := h
    intro R hst hs
    cases hl : a.2.2.1 with
    | nil => exact ⟨safe_lone (by decide), safe_stop (show (1 : Int) ≠ 5 by decide) hst, hs⟩
    | cons x r =>
      simp only [List.cons_append, List.append_assoc, List.nil_append]
      refine ⟨safe_lone (by decide), safe_paren, safe_lone (by decide), comma_snug (s := []) (fun y hy s => ?_) _ (stop_cons (show stopB 41 = true by decide)) ⟨safe_lone (by decide), hs⟩⟩
      exact expr_snug (expr_iff.1 (h4 y (by rw [hl]; exact hy))).2.2 s
  · rw [if_neg h1]
    intro R hst hs
    exact ⟨safe_stop (show (1 : Int) ≠ 5 by decide) (stop_cons (show stopB 32 = true by decide)), safe_stop (show (3 : Int) ≠ 5 by decide) hst, hs⟩
theorem hasN_le (l : List Cp) : hasN l ≤ l.length := List.length_filter_le _ _
theorem rule_fine {r : Rp} (h : rightR r = true) : Fine (rulePs r) := by
  obtain ⟨h1, h2, h3, h4, h5, h6, h7⟩ := right_iff.1 h
  have hsym : symB r.1 = true := by
    simp only [nameB, Bool.and_eq_true] at h1
    exact h1.1
  have hn := hasN_le r.2.2.1
  refine fine_cons ⟨good_sym (show symB wordRule = true by decide) 0, sep_nil⟩ (fine_cons ⟨good_sym hsym 0, sep_one⟩ (fine_cons ⟨good_num (by omega) (by omega) 0, sep_one⟩ (fine_cons (fine_mark sep_nil (by decide) ⟨by decide, by decide, by decide⟩)
    (fine_app (comma_fine sep_one (fun c hc s hs => cond_fine (h6 c hc) s hs)) (fine_cons ⟨good_pair (by decide), sep_one⟩ (fine_app (comma_fine sep_one (fun a ha s hs => act_fine (by omega) (h7 a ha) s hs)) (fine_cons (fine_mark sep_nil (by decide) ⟨by decide, by decide, by decide⟩) fine_nil)))))))
theorem safe_colon {x r : List UInt8} : Safe 3 x (58 :: r) := by
  refine ⟨fun e => by omega, fun _ => ?_, fun e => by omega⟩
  show digC 58 = false
  decide
theorem rule_safe {r : Rp} (h : rightR r = true) {R : List (List UInt8 × Tk)} (hs : SafeAll R) : SafeAll (rulePs r ++ R) := by
  obtain ⟨h1, h2, h3, h4, h5, h6, h7⟩ := right_iff.1 h
  unfold rulePs
  simp only [List.cons_append, List.append_assoc, List.nil_append]
  refine ⟨safe_stop (show (1 : Int) ≠ 5 by decide) (stop_cons (show stopB 32 = true by decide)), safe_stop (show (1 : Int) ≠ 5 by decide) (stop_cons (show stopB 32 = true by decide)), ?_, safe_lone (by decide),
    comma_snug (s := [32]) (fun c hc s => cond_snug (h6 c hc) s) _ (stop_cons (show stopB 32 = true by decide)) ⟨safe_pair (by decide), comma_snug (s := [32]) (fun a ha s => act_snug (h7 a ha) s) _ (stop_cons (show stopB 46 = true by decide)) ⟨safe_lone (by decide), hs⟩⟩⟩
  exact safe_colon
/-- Its text. -/
def textR (r : Rp) : List UInt8 := glue (rulePs r)
def ruleK (r : Rp) : List Kt := (rulePs r).map (fun p => kt p.2)
/-- A rule's text, whatever signs follow: its signs, then those. -/
theorem lex_rule {r : Rp} (h : rightR r = true) {R : List (List UInt8 × Tk)} (hs : SafeAll R) (hg : Fine R) (q : Nat) :
    ∃ us, lexA rightK (textR r ++ glue R) q = .ok us ∧ us.map kt = ruleK r ++ R.map (fun p => kt p.2) := by
  obtain ⟨us, u1, u2⟩ := lex_safe (R := rightK) (ps := rulePs r ++ R) (q := q) (fine_app (rule_fine h) hg) (rule_safe h hs)
  rw [glue_app] at u1
  rw [List.map_append] at u2
  exact ⟨us, u1, u2⟩
end Go.Proofs.YtcjnhhbcleljmaaGreatDoor.V
namespace Go.Proofs.YtcjnhhbcleljmaaGreatDoor.V

abbrev Rd (α : Type) := List Kt → Nat → Except (Option Nat) (α × List Kt × Nat)
def pureR {α : Type} (a : α) : Rd α := fun ts p => .ok (a, ts, p)
def bindR {α β : Type} (f : Rd α) (g : α → Rd β) : Rd β := fun ts p => match f ts p with
  | .error e => .error e
  | .ok a => g a.1 a.2.1 a.2.2
def takeR (k : Kt) : Rd Unit := fun ts p => match ts with
  | [] => .error (some p)
  | t :: r => if t = k then .ok ((), r, p + 1) else .error (some p)
def isR (k : Kt) : List Kt → Bool
  | [] => false
  | t :: _ => decide (t = k)
def nameR : Rd (List UInt8) := fun ts p => match ts with
  | [] => .error (some p)
  | t :: r => if t.1 = 1 ∧ nameB t.2 = true then .ok (t.2, r, p + 1) else .error (some p)
def numR : Rd Int := fun ts p => match ts with
  | [] => .error (some p)
  | t :: r => if t.1 = 3 then (match numGo t.2 with
    | none => .error (some p)
    | some n => .ok (n, r, p + 1)) else .error (some p)
def whichR : Rd Int := fun ts p => match numR ts p with
  | .error e => .error e
  | .ok a => if a.1 < 0 then .error (some p) else .ok a
def atomR : Rd At := fun ts p => match readAt ts p with
  | .error e => .error (some e)
  | .ok x => .ok (x.1, ts.drop (x.2 - p), x.2)
def exprR : Rd (List Oo) := readX 15
def howK (c : Kt) : Option Int := if c = (5, [61]) then some 1 else if c = (5, [33, 61]) then some 2 else if c = (5, [60]) then some 3 else if c = (5, [60, 61]) then some 4 else none
def howR : Rd Int := fun ts p => match ts with
  | [] => .error (some p)
  | t :: r => match howK t with
    | none => .error (some p)
    | some h => .ok (h, r, p + 1)
/-- Some with commas between, at least one. -/
def manyR {α : Type} (f : Rd α) : Nat → Rd (List α)
  | 0 => fun _ p => .error (some p)
  | n + 1 => bindR f (fun a ts p => if isR (5, [44]) ts = true then bindR (takeR (5, [44])) (fun _ => bindR (manyR f n) (fun l => pureR (a :: l))) ts p else .ok ([a], ts, p))
def condR : Rd Cp := fun ts p =>
  if isR (1, wordNot) ts = true then bindR (takeR (1, wordNot)) (fun _ => bindR atomR (fun a => pureR (2, a, 0, [], []))) ts p
  else if isR (5, [91]) ts = true then bindR (takeR (5, [91])) (fun _ => bindR exprR (fun x => bindR howR (fun h => bindR exprR (fun y => bindR (takeR (5, [93])) (fun _ => pureR (3, noA, h, x, y)))))) ts p
  else bindR atomR (fun a => pureR (1, a, 0, [], [])) ts p
def argsR : Rd (List (List Oo)) := fun ts p =>
  if isR (5, [40]) ts = true then bindR (takeR (5, [40])) (fun _ => bindR (fun ts p => manyR exprR ts.length ts p) (fun l => bindR (takeR (5, [41])) (fun _ => pureR l))) ts p
  else .ok ([], ts, p)
def actR : Rd Ap := fun ts p =>
  if isR (1, wordDrop) ts = true then bindR (takeR (1, wordDrop)) (fun _ => bindR whichR (fun n => pureR (2, [], [], n))) ts p
  else bindR (takeR (5, [43])) (fun _ => bindR nameR (fun n => bindR argsR (fun l => pureR (1, n, l, 0)))) ts p
def ruleR : Rd Rp := bindR (takeR (1, wordRule)) (fun _ => bindR nameR (fun n => bindR numR (fun i => bindR (takeR (5, [58])) (fun _ => bindR (fun ts p => manyR condR ts.length ts p) (fun cs => bindR (takeR (5, [45, 62])) (fun _ => bindR (fun ts p => manyR actR ts.length ts p) (fun ax => bindR (takeR (5, [46])) (fun _ => pureR (n, i, cs, ax)))))))))
/-- One that is not right, one with too many brackets: where it begins. -/
def readR (ts : List Kt) (p : Nat) : Except Nat (Rp × Nat) := match ruleR (ts.drop p) p with
  | .ok a => if rightR a.1 = true then .ok (a.1, a.2.2) else .error p
  | .error none => .error p
  | .error (some e) => .error e

/-- These signs, ahead of what may stand behind, are read as that. -/
def Reads {α : Type} (G : List Kt → Prop) (f : Rd α) (ks : List Kt) (v : α) : Prop := ∀ (rest : List Kt) (p : Nat), G rest → f (ks ++ rest) p = .ok (v, rest, p + ks.length)
def NoHead (k : Kt) (rest : List Kt) : Prop := ∀ c r, rest = c :: r → c ≠ k
theorem noHead_cons {k c : Kt} {r : List Kt} (h : c ≠ k) : NoHead k (c :: r) := fun d s e => by
  have : c = d := (List.cons.inj e).1
  subst this; exact h
theorem isR_no {k : Kt} {rest : List Kt} (h : NoHead k rest) : isR k rest = false := by
  cases rest with
  | nil => rfl
  | cons c r => exact decide_eq_false (h c r rfl)
theorem reads_bind {α β : Type} {G H : List Kt → Prop} {f : Rd α} {g : α → Rd β} {k l : List Kt} {v : α} {u : β} (h : Reads H f k v) (h' : Reads G (g v) l u) (hg : ∀ rest, G rest → H (l ++ rest)) : Reads G (bindR f g) (k ++ l) u := by
  intro rest p hr
  unfold bindR
  rw [List.append_assoc, h (l ++ rest) p (hg rest hr)]
  simp only
  rw [h' rest _ hr, List.length_append]
  congr 3
  omega
theorem reads_pure {α : Type} {G : List Kt → Prop} (v : α) : Reads G (pureR v) [] v := fun _ _ _ => rfl
theorem reads_take {G : List Kt → Prop} (k : Kt) : Reads G (takeR k) [k] () := fun rest p _ => by simp [takeR]
theorem reads_name {G : List Kt → Prop} {n : List UInt8} (h : nameB n = true) : Reads G nameR [(1, n)] n := fun rest p _ => by simp [nameR, h]
theorem reads_num {G : List Kt → Prop} {n : Int} (h0 : -4611686018427387904 ≤ n) (h1 : n ≤ 4611686018427387904) : Reads G numR [(3, Lib.itoa n)] n := fun rest p _ => by simp [numR, numGo_itoa n h0 h1]
theorem reads_which {G : List Kt → Prop} {n : Int} (h0 : 0 ≤ n) (h1 : n ≤ 4611686018427387904) : Reads G whichR [(3, Lib.itoa n)] n := fun rest p hr => by
  unfold whichR
  rw [reads_num (G := G) (by omega) h1 rest p hr]
  simp only
  rw [if_neg (by omega)]
theorem reads_atom {a : At} (h : rightA a = true) : Reads (NoHead (5, [40])) atomR (atomK a) a := fun rest p hr => by
  unfold atomR
  rw [readAt_atom h hr]
  simp only
  rw [show p + (atomK a).length - p = (atomK a).length by omega, List.drop_left]
theorem reads_expr {G : List Kt → Prop} {l : List Oo} (h : exprB l = true) : Reads G exprR (exprK l) l := fun rest p _ => by
  obtain ⟨⟨_, h15⟩, hr, h1⟩ := expr_iff.1 h
  exact readX_expr h1 hr 15 rest p (by omega)
theorem reads_how {G : List Kt → Prop} {h : Int} (hh : 1 ≤ h ∧ h ≤ 4) : Reads G howR [(5, howL h)] h := fun rest p _ => by
  have e : h = 1 ∨ h = 2 ∨ h = 3 ∨ h = 4 := by omega
  rcases e with rfl | rfl | rfl | rfl <;> rfl
/-- With commas between. -/
def commaK {α : Type} (f : α → List Kt) : List α → List Kt
  | [] => []
  | a :: r => f a ++ (match r with
    | [] => []
    | _ :: _ => (5, [44]) :: commaK f r)
theorem commaK_one {α : Type} (f : α → List Kt) (a : α) : commaK f [a] = f a := by simp [commaK]
theorem commaK_two {α : Type} (f : α → List Kt) (a b : α) (r : List α) : commaK f (a :: b :: r) = f a ++ (5, [44]) :: commaK f (b :: r) := rfl
theorem commaK_len {α : Type} {f : α → List Kt} : ∀ {l : List α}, (∀ a ∈ l, 1 ≤ (f a).length) → l.length ≤ (commaK f l).length := by
  intro l
  induction l with
  | nil => intro _; simp
  | cons a r ih =>
    intro h
    have h1 := h a (by simp)
    cases r with
    | nil => rw [commaK_one]; simpa using h1
    | cons b r =>
      have := ih (fun x hx => h x (by simp [hx]))
      rw [commaK_two]
      simp only [List.length_append, List.length_cons] at this ⊢
      omega
theorem reads_many {α : Type} {f : Rd α} {k : α → List Kt} {H : List Kt → Prop} (hH : ∀ r, H ((5, [44]) :: r)) : ∀ {l : List α} {n : Nat}, l ≠ [] → l.length ≤ n → (∀ a ∈ l, Reads H f (k a) a) → Reads (fun rest => H rest ∧ NoHead (5, [44]) rest) (manyR f n) (commaK k l) l := by
  intro l
  induction l with
  | nil => intro n h; exact absurd rfl h
  | cons a r ih =>
    intro n _ hn h rest p hr
    obtain ⟨n, rfl⟩ : ∃ m, n = m + 1 := ⟨n - 1, by simp at hn; omega⟩
    simp only [manyR]
    unfold bindR
    cases r with
    | nil =>
      rw [commaK_one, h a (by simp) rest p hr.1]
      simp only
      rw [if_neg (by rw [isR_no hr.2]; simp)]
    | cons b r =>
      rw [commaK_two, List.append_assoc, List.cons_append, h a (by simp) _ p (hH _)]
      simp only
      rw [if_pos (by simp [isR])]
      have e := ih (n := n) (by simp) (by simp at hn ⊢; omega) (fun x hx => h x (by simp [hx])) rest (p + (k a).length + 1) hr
      simp only [takeR]
      rw [if_pos trivial]
      simp only
      rw [e]
      simp only [pureR, List.length_append, List.length_cons]
      congr 3
      omega
def condK (c : Cp) : List Kt :=
  if c.1 = 1 then atomK c.2.1
  else if c.1 = 2 then (1, wordNot) :: atomK c.2.1
  else (5, [91]) :: (exprK c.2.2.2.1 ++ (5, howL c.2.2.1) :: (exprK c.2.2.2.2 ++ [(5, [93])]))
def argsK : List (List Oo) → List Kt
  | [] => []
  | x :: r => (5, [40]) :: (commaK exprK (x :: r) ++ [(5, [41])])
def actK (a : Ap) : List Kt :=
  if a.1 = 1 then (5, [43]) :: (1, a.2.1) :: argsK a.2.2.1
  else [(1, wordDrop), (3, Lib.itoa a.2.2.2)]
theorem atomK_head (a : At) : ∃ r, atomK a = (1, a.1) :: r := ⟨_, rfl⟩
theorem condK_len (c : Cp) : 1 ≤ (condK c).length := by
  unfold condK
  split
  · exact atomK_pos _
  · split <;> simp
theorem actK_len (a : Ap) : 1 ≤ (actK a).length := by
  unfold actK
  split <;> simp
theorem exprK_len {l : List Oo} (h : exprB l = true) : 1 ≤ (exprK l).length := by
  rcases split_one (expr_iff.1 h).2.2 with ⟨o, rfl, hp⟩ | ⟨x, y, o, rfl, hx, hy, hp⟩
  · rw [exprK_leaf hp]; simp
  · rw [exprK_node hx hy hp]; simp
theorem reads_cond {c : Cp} (h : rightC' c = true) : Reads (NoHead (5, [40])) condR (condK c) c := by
  obtain ⟨k, a, w, x, y⟩ := c
  unfold rightC' at h
  simp only at h
  unfold condK
  simp only
  intro rest p hr
  by_cases h1 : k = 1
  · subst h1
    simp only [true_or, if_true, Bool.and_eq_true, decide_eq_true_eq] at h
    obtain ⟨ha, rfl, rfl, rfl⟩ := h
    rw [if_pos rfl]
    have hn : nameB a.1 = true := by
      simp only [rightA, Bool.and_eq_true] at ha
      exact ha.1
    have e := reads_bind (G := NoHead (5, [40])) (reads_atom ha) (g := fun a => pureR ((1, a, 0, [], []) : Cp)) (l := []) (reads_pure _) (fun r hr => hr) rest p hr
    rw [List.append_nil] at e
    unfold condR
    obtain ⟨s, hs⟩ := atomK_head a
    rw [if_neg (by
      rw [hs]
      simp only [List.cons_append, isR, decide_eq_true_eq]
      intro e
      rw [(Prod.mk.inj e).2] at hn
      exact absurd hn (by decide)), if_neg (by
      rw [hs]
      simp only [List.cons_append, isR, decide_eq_true_eq]
      intro e
      exact absurd (Prod.mk.inj e).1 (by decide))]
    exact e
  · rw [if_neg h1]
    by_cases h2 : k = 2
    · subst h2
      simp only [or_true, if_true, Bool.and_eq_true, decide_eq_true_eq] at h
      obtain ⟨ha, rfl, rfl, rfl⟩ := h
      rw [if_pos rfl]
      have e := reads_bind (G := NoHead (5, [40])) (reads_take (G := fun _ => True) (1, wordNot)) (g := fun _ => bindR atomR (fun a => pureR ((2, a, 0, [], []) : Cp))) (reads_bind (reads_atom ha) (reads_pure _) (fun r hr => hr)) (fun _ _ => trivial) rest p hr
      rw [List.append_nil] at e
      unfold condR
      rw [if_pos (by simp [isR])]
      exact e
    · rw [if_neg (by omega)] at h
      rw [if_neg h2]
      simp only [Bool.and_eq_true, decide_eq_true_eq] at h
      obtain ⟨rfl, rfl, hh, hx, hy⟩ := h
      have T : ∀ r : List Kt, NoHead (5, [40]) r → (fun _ : List Kt => True) r := fun _ _ => trivial
      have e := reads_bind (G := NoHead (5, [40])) (reads_take (G := fun _ => True) (5, [91])) (g := fun _ => bindR exprR (fun x => bindR howR (fun h => bindR exprR (fun y => bindR (takeR (5, [93])) (fun _ => pureR ((3, noA, h, x, y) : Cp))))))
        (reads_bind (reads_expr (G := fun _ => True) hx) (reads_bind (reads_how (G := fun _ => True) hh) (reads_bind (reads_expr (G := fun _ => True) hy) (reads_bind (reads_take (G := fun _ => True) (5, [93])) (reads_pure _) (fun _ _ => trivial)) (fun _ _ => trivial)) (fun _ _ => trivial)) (fun _ _ => trivial)) (fun _ _ => trivial) rest p hr
      unfold condR
      rw [if_neg (by simp [isR]), if_pos (by simp [isR])]
      simpa using e
end Go.Proofs.YtcjnhhbcleljmaaGreatDoor.V
namespace Go.Proofs.YtcjnhhbcleljmaaGreatDoor.V

abbrev kts (ps : List (List UInt8 × Tk)) : List Kt := ps.map (fun p => kt p.2)
theorem kt_comma {α : Type} {f : List UInt8 → α → List (List UInt8 × Tk)} {k : α → List Kt} : ∀ {l : List α} {s : List UInt8}, (∀ a ∈ l, ∀ s, kts (f s a) = k a) → kts (commaPs f s l) = commaK k l := by
  intro l
  induction l with
  | nil => intro s _; rfl
  | cons a r ih =>
    intro s h
    cases r with
    | nil => rw [commaPs_one, commaK_one]; exact h a (by simp) s
    | cons b r =>
      rw [commaPs_two, commaK_two]
      show (f s a ++ _).map _ = _
      rw [List.map_append, List.map_cons]
      rw [show (f s a).map (fun p => kt p.2) = k a from h a (by simp) s]
      rw [show (commaPs f [32] (b :: r)).map (fun p => kt p.2) = commaK k (b :: r) from ih (fun x hx => h x (by simp [hx]))]
      rfl
theorem kt_cond {c : Cp} (h : rightC' c = true) (s : List UInt8) : kts (condPs s c) = condK c := by
  unfold rightC' at h
  unfold kts condPs condK
  by_cases h1 : c.1 = 1
  · rw [if_pos h1, if_pos h1]; exact kt_atom s _
  · rw [if_neg h1, if_neg h1]
    by_cases h2 : c.1 = 2
    · rw [if_pos h2, if_pos h2, List.map_cons, kt_atom]; rfl
    · rw [if_neg (by omega)] at h
      rw [if_neg h2, if_neg h2]
      simp only [Bool.and_eq_true, decide_eq_true_eq] at h
      obtain ⟨_, _, _, hl, hr⟩ := h
      simp only [List.map_cons, List.map_append, kt_expr (expr_iff.1 hl).2.2, kt_expr (expr_iff.1 hr).2.2]
      rfl
theorem kt_act {n : Nat} {a : Ap} (h : rightAct n a = true) (s : List UInt8) : kts (actPs s a) = actK a := by
  unfold rightAct at h
  unfold kts actPs actK
  by_cases h1 : a.1 = 1
  · rw [if_pos h1] at h
    simp only [Bool.and_eq_true, decide_eq_true_eq, List.all_eq_true] at h
    obtain ⟨_, _, h4, _⟩ := h
    rw [if_pos h1, if_pos h1]
    cases hl : a.2.2.1 with
    | nil => rfl
    | cons x r =>
      rw [hl] at h4
      have e := kt_comma (f := fun s l => exprPs l s) (k := exprK) (l := x :: r) (s := []) (fun y hy s => kt_expr (expr_iff.1 (h4 y hy)).2.2 s)
      simp only [List.map_cons, List.map_append]
      rw [show (commaPs (fun s l => exprPs l s) [] (x :: r)).map (fun p => kt p.2) = commaK exprK (x :: r) from e]
      rfl
  · rw [if_neg h1, if_neg h1]; rfl
theorem ruleK_eq {r : Rp} (h : rightR r = true) : ruleK r = (1, wordRule) :: (1, r.1) :: (3, Lib.itoa r.2.1) :: (5, [58]) :: (commaK condK r.2.2.1 ++ (5, [45, 62]) :: (commaK actK r.2.2.2 ++ [(5, [46])])) := by
  obtain ⟨h1, h2, h3, h4, h5, h6, h7⟩ := right_iff.1 h
  unfold ruleK rulePs
  simp only [List.map_cons, List.map_append]
  rw [show (commaPs condPs [32] r.2.2.1).map (fun p => kt p.2) = commaK condK r.2.2.1 from kt_comma (fun c hc s => kt_cond (h6 c hc) s),
    show (commaPs actPs [32] r.2.2.2).map (fun p => kt p.2) = commaK actK r.2.2.2 from kt_comma (fun a ha s => kt_act (h7 a ha) s)]
  rfl
theorem reads_act {n : Nat} (hn : n ≤ 6) {a : Ap} (h : rightAct n a = true) : Reads (NoHead (5, [40])) actR (actK a) a := by
  obtain ⟨k, m, l, i⟩ := a
  unfold rightAct at h
  simp only at h
  unfold actK
  simp only
  intro rest p hr
  by_cases h1 : k = 1
  · subst h1
    simp only [if_true, Bool.and_eq_true, decide_eq_true_eq, List.all_eq_true] at h
    obtain ⟨h2, h3, h4, rfl⟩ := h
    rw [if_pos rfl]
    have hargs : Reads (NoHead (5, [40])) argsR (argsK l) l := by
      intro rest p hr
      unfold argsR
      cases l with
      | nil =>
        show (if isR (5, [40]) rest = true then _ else _) = _
        rw [if_neg (by rw [isR_no hr]; simp)]
        rfl
      | cons x r =>
        rw [if_pos (by simp [isR, argsK])]
        have hlen : ∀ ts : List Kt, (commaK exprK (x :: r) ++ ts).length ≥ (x :: r).length := fun ts => by
          have := commaK_len (f := exprK) (l := x :: r) (fun y hy => exprK_len (h4 y hy))
          simp only [List.length_append]; omega
        have hm : Reads (fun rest => True ∧ NoHead (5, [44]) rest) (fun ts p => manyR exprR ts.length ts p) (commaK exprK (x :: r)) (x :: r) := fun rest p hr =>
          reads_many (H := fun _ => True) (fun _ => trivial) (by simp) (hlen rest) (fun y hy => reads_expr (h4 y hy)) rest p hr
        have e := reads_bind (G := NoHead (5, [40])) (reads_take (G := fun _ => True) (5, [40])) (g := fun _ => bindR (fun ts p => manyR exprR ts.length ts p) (fun l => bindR (takeR (5, [41])) (fun _ => pureR l)))
          (reads_bind hm (reads_bind (reads_take (G := fun _ => True) (5, [41])) (reads_pure _) (fun _ _ => trivial)) (fun r _ => ⟨trivial, noHead_cons (by decide)⟩)) (fun _ _ => trivial) rest p hr
        simpa [argsK] using e
    have e := reads_bind (G := NoHead (5, [40])) (reads_take (G := fun _ => True) (5, [43])) (g := fun _ => bindR nameR (fun n => bindR argsR (fun l => pureR ((1, n, l, 0) : Ap))))
      (reads_bind (reads_name (G := fun _ => True) h2) (reads_bind hargs (reads_pure _) (fun r hr => hr)) (fun _ _ => trivial)) (fun _ _ => trivial) rest p hr
    unfold actR
    rw [if_neg (by simp [isR])]
    rw [List.append_nil] at e
    exact e
  · rw [if_neg h1] at h ⊢
    simp only [Bool.and_eq_true, decide_eq_true_eq] at h
    obtain ⟨rfl, ⟨rfl, rfl⟩, h2, h3⟩ := h
    have e := reads_bind (G := NoHead (5, [40])) (reads_take (G := fun _ => True) (1, wordDrop)) (g := fun _ => bindR whichR (fun n => pureR ((2, [], [], n) : Ap)))
      (reads_bind (reads_which (G := fun _ => True) h2 (by omega)) (reads_pure _) (fun _ _ => trivial)) (fun _ _ => trivial) rest p hr
    unfold actR
    rw [if_pos (by simp [isR])]
    simpa using e
theorem reads_rule {G : List Kt → Prop} {r : Rp} (h : rightR r = true) : Reads G ruleR (ruleK r) r := by
  obtain ⟨h1, h2, h3, h4, h5, h6, h7⟩ := right_iff.1 h
  rw [ruleK_eq h]
  obtain ⟨n, i, cs, ax⟩ := r
  simp only at h1 h2 h3 h4 h5 h6 h7 ⊢
  have hN := hasN_le cs
  have many : ∀ {α : Type} {f : Rd α} {k : α → List Kt} {l : List α}, 1 ≤ l.length → (∀ a ∈ l, 1 ≤ (k a).length) → (∀ a ∈ l, Reads (NoHead (5, [40])) f (k a) a) →
      Reads (fun rest => NoHead (5, [40]) rest ∧ NoHead (5, [44]) rest) (fun ts p => manyR f ts.length ts p) (commaK k l) l := by
    intro α f k l hl hk hf rest p hr
    have := commaK_len (f := k) (l := l) hk
    exact reads_many (H := NoHead (5, [40])) (fun r => noHead_cons (by decide)) (by rintro rfl; simp at hl) (by simp only [List.length_append]; omega) hf rest p hr
  have hc := many (f := condR) (k := condK) (l := cs) h3.1 (fun c _ => condK_len c) (fun c hc => reads_cond (h6 c hc))
  have ha := many (f := actR) (k := actK) (l := ax) h5.1 (fun a _ => actK_len a) (fun a ha => reads_act (by omega) (h7 a ha))
  have e := reads_bind (G := G) (reads_take (G := fun _ => True) (1, wordRule)) (g := fun _ => bindR nameR (fun n => bindR numR (fun i => bindR (takeR (5, [58])) (fun _ => bindR (fun ts p => manyR condR ts.length ts p) (fun cs => bindR (takeR (5, [45, 62])) (fun _ => bindR (fun ts p => manyR actR ts.length ts p) (fun ax => bindR (takeR (5, [46])) (fun _ => pureR ((n, i, cs, ax) : Rp)))))))))
    (reads_bind (reads_name (G := fun _ => True) h1) (reads_bind (reads_num (G := fun _ => True) (n := i) (by omega) (by omega)) (reads_bind (reads_take (G := fun _ => True) (5, [58])) (reads_bind hc (reads_bind (reads_take (G := fun _ => True) (5, [45, 62])) (reads_bind ha (reads_bind (reads_take (G := fun _ => True) (5, [46])) (reads_pure _) (fun _ _ => trivial))
      (fun r _ => ⟨noHead_cons (by decide), noHead_cons (by decide)⟩)) (fun _ _ => trivial)) (fun r _ => ⟨noHead_cons (by decide), noHead_cons (by decide)⟩)) (fun _ _ => trivial)) (fun _ _ => trivial)) (fun _ _ => trivial)) (fun _ _ => trivial)
  intro rest p hr
  have := e rest p hr
  simpa [ruleR] using this
theorem readR_rule {r : Rp} (h : rightR r = true) (rest : List Kt) : readR (ruleK r ++ rest) 0 = .ok (r, (ruleK r).length) := by
  unfold readR
  rw [List.drop_zero, reads_rule (G := fun _ => True) h rest 0 trivial]
  simp only
  rw [if_pos h, Nat.zero_add]
theorem read_textR {r : Rp} (h : rightR r = true) (q : Nat) : ∃ us, lexA rightK (textR r) q = .ok us ∧ us.map kt = ruleK r ∧ readR (us.map kt) 0 = .ok (r, us.length) := by
  obtain ⟨us, h1, h2⟩ := lex_rule h (R := []) trivial fine_nil q
  rw [show glue [] = [] from rfl, List.append_nil] at h1
  rw [List.map_nil, List.append_nil] at h2
  refine ⟨us, h1, h2, ?_⟩
  have hr := readR_rule h []
  rw [List.append_nil] at hr
  rw [h2, hr, ← h2, List.length_map]
theorem textR_inj {a b : Rp} (ha : rightR a = true) (hb : rightR b = true) (h : textR a = textR b) : a = b := by
  obtain ⟨us, h1, _, h3⟩ := read_textR ha 0
  obtain ⟨vs, k1, _, k3⟩ := read_textR hb 0
  rw [h, k1] at h1
  cases h1
  rw [k3] at h3
  cases h3
  rfl
theorem readR_right {ts : List Kt} {p : Nat} {a : Rp × Nat} (h : readR ts p = .ok a) : rightR a.1 = true := by
  unfold readR at h
  split at h
  · split at h
    · rename_i hr; cases h; exact hr
    · cases h
  · cases h
  · cases h
end Go.Proofs.YtcjnhhbcleljmaaGreatDoor.V
namespace Go.Proofs.YtcjnhhbcleljmaaGreatDoor.V

/-- What is read is what stood ahead of the rest. -/
def Goes {α : Type} (f : Rd α) : Prop := ∀ {ts : List Kt} {p : Nat} {a : α × List Kt × Nat}, f ts p = .ok a → p ≤ a.2.2 ∧ a.2.2 + a.2.1.length = p + ts.length
theorem goes_pure {α : Type} (v : α) : Goes (pureR v) := by
  intro ts p a h
  cases h
  exact ⟨Nat.le_refl _, rfl⟩
theorem goes_bind {α β : Type} {f : Rd α} {g : α → Rd β} (hf : Goes f) (hg : ∀ v, Goes (g v)) : Goes (bindR f g) := by
  intro ts p a h
  unfold bindR at h
  cases hx : f ts p with
  | error e => rw [hx] at h; cases h
  | ok b =>
    rw [hx] at h
    have h1 := hf hx
    have h2 := hg b.1 h
    omega
theorem goes_take (k : Kt) : Goes (takeR k) := by
  intro ts p a h
  cases ts with
  | nil => cases h
  | cons t r =>
    simp only [takeR] at h
    split at h
    · cases h; exact ⟨by simp, by simp; omega⟩
    · cases h
theorem goes_name : Goes nameR := by
  intro ts p a h
  cases ts with
  | nil => cases h
  | cons t r =>
    simp only [nameR] at h
    split at h
    · cases h; exact ⟨by simp, by simp; omega⟩
    · cases h
theorem goes_num : Goes numR := by
  intro ts p a h
  cases ts with
  | nil => cases h
  | cons t r =>
    simp only [numR] at h
    split at h
    · split at h
      · cases h
      · cases h; exact ⟨by simp, by simp; omega⟩
    · cases h
theorem goes_which : Goes whichR := by
  intro ts p a h
  unfold whichR at h
  cases hx : numR ts p with
  | error e => rw [hx] at h; cases h
  | ok b =>
    rw [hx] at h
    simp only at h
    split at h
    · cases h
    · cases h; exact goes_num hx
theorem goes_how : Goes howR := by
  intro ts p a h
  cases ts with
  | nil => cases h
  | cons t r =>
    simp only [howR] at h
    split at h
    · cases h
    · cases h; exact ⟨by simp, by simp; omega⟩
theorem goes_expr : Goes exprR := by
  intro ts p a h
  obtain ⟨_, h1, h2⟩ := readX_right 15 h
  exact ⟨by omega, h2⟩
theorem readAt_bounds {ts : List Kt} {p : Nat} {x : At × Nat} (hr : readAt ts p = .ok x) : p < x.2 ∧ x.2 ≤ p + ts.length := by
  unfold readAt at hr
  cases ts with
  | nil => cases hr
  | cons t r =>
    simp only at hr
    split at hr
    case isFalse => cases hr
    cases r with
    | nil => cases hr; exact ⟨by simp, by simp⟩
    | cons c r' =>
      simp only at hr
      split at hr
      · cases hq : readTs r' (p + 2) with
        | error e => rw [hq] at hr; cases hr
        | ok y =>
          rw [hq] at hr
          cases hr
          obtain ⟨_, i2, i3, _⟩ := readTs_right _ (Nat.le_refl _) hq
          exact ⟨by simp only; omega, by simp only [List.length_cons]; omega⟩
      · cases hr
        exact ⟨by simp, by simp⟩
theorem goes_atom : Goes atomR := by
  intro ts p a h
  unfold atomR at h
  cases hx : readAt ts p with
  | error e => rw [hx] at h; cases h
  | ok b =>
    rw [hx] at h
    cases h
    have := readAt_bounds hx
    exact ⟨by simp only; omega, by simp only [List.length_drop]; omega⟩
theorem goes_many {α : Type} {f : Rd α} (hf : Goes f) : ∀ (n : Nat), Goes (manyR f n) := by
  intro n
  induction n with
  | zero => intro ts p a h; cases h
  | succ n ih =>
    refine goes_bind hf (fun v => ?_)
    intro ts p a h
    simp only at h
    split at h
    · exact goes_bind (goes_take _) (fun _ => goes_bind ih (fun l => goes_pure _)) h
    · cases h; exact ⟨Nat.le_refl _, rfl⟩
theorem goes_all {α : Type} {f : Rd α} (hf : Goes f) : Goes (fun ts p => manyR f ts.length ts p) := by
  intro ts p a h
  exact goes_many hf _ h
theorem goes_cond : Goes condR := by
  intro ts p a h
  unfold condR at h
  split at h
  · exact goes_bind (goes_take _) (fun _ => goes_bind goes_atom (fun _ => goes_pure _)) h
  · split at h
    · exact goes_bind (goes_take _) (fun _ => goes_bind goes_expr (fun _ => goes_bind goes_how (fun _ => goes_bind goes_expr (fun _ => goes_bind (goes_take _) (fun _ => goes_pure _))))) h
    · exact goes_bind goes_atom (fun _ => goes_pure _) h
theorem goes_args : Goes argsR := by
  intro ts p a h
  unfold argsR at h
  split at h
  · exact goes_bind (goes_take _) (fun _ => goes_bind (goes_all goes_expr) (fun _ => goes_bind (goes_take _) (fun _ => goes_pure _))) h
  · cases h; exact ⟨Nat.le_refl _, rfl⟩
theorem goes_act : Goes actR := by
  intro ts p a h
  unfold actR at h
  split at h
  · exact goes_bind (goes_take _) (fun _ => goes_bind goes_which (fun _ => goes_pure _)) h
  · exact goes_bind (goes_take _) (fun _ => goes_bind goes_name (fun _ => goes_bind goes_args (fun _ => goes_pure _))) h
/-- A rule that is read: at least one sign, none beyond the end. -/
theorem readR_bounds {ts : List Kt} {p : Nat} {a : Rp × Nat} (hp : p ≤ ts.length) (h : readR ts p = .ok a) : p < a.2 ∧ a.2 ≤ ts.length := by
  unfold readR at h
  cases hr : ruleR (ts.drop p) p with
  | error e =>
    rw [hr] at h
    cases e <;> cases h
  | ok b =>
    rw [hr] at h
    simp only at h
    split at h
    · cases h
      unfold ruleR bindR at hr
      cases ht : takeR (1, wordRule) (ts.drop p) p with
      | error e => rw [ht] at hr; cases hr
      | ok c =>
        rw [ht] at hr
        have h1 := goes_take _ ht
        have hlt : c.2.2 = p + 1 := by
          cases hd : ts.drop p with
          | nil => rw [hd] at ht; cases ht
          | cons t r =>
            rw [hd] at ht
            simp only [takeR] at ht
            split at ht
            · cases ht; rfl
            · cases ht
        have h2 := goes_bind goes_name (g := fun n => bindR numR (fun i => bindR (takeR (5, [58])) (fun _ => bindR (fun ts p => manyR condR ts.length ts p) (fun cs => bindR (takeR (5, [45, 62])) (fun _ => bindR (fun ts p => manyR actR ts.length ts p) (fun ax => bindR (takeR (5, [46])) (fun _ => pureR ((n, i, cs, ax) : Rp))))))))
          (fun _ => goes_bind goes_num (fun _ => goes_bind (goes_take _) (fun _ => goes_bind (goes_all goes_cond) (fun _ => goes_bind (goes_take _) (fun _ => goes_bind (goes_all goes_act) (fun _ => goes_bind (goes_take _) (fun _ => goes_pure _))))))) hr
        have h3 := h1.2
        rw [List.length_drop] at h3
        simp only at h2 ⊢
        omega
    · cases h
end Go.Proofs.YtcjnhhbcleljmaaGreatDoor.V
namespace Go.Proofs.YtcjnhhbcleljmaaGreatDoor.V

def ruleFrom (s : List UInt8) (r : Rp) : List (List UInt8 × Tk) := (s, 1, wordRule, 0) :: (rulePs r).tail
theorem glue_from (s : List UInt8) (r : Rp) : glue (ruleFrom s r) = s ++ textR r := by
  unfold ruleFrom textR rulePs
  simp only [List.tail_cons, glue, List.nil_append]
theorem kt_from (s : List UInt8) (r : Rp) : (ruleFrom s r).map (fun p => kt p.2) = ruleK r := by
  unfold ruleFrom ruleK rulePs
  simp only [List.tail_cons, List.map_cons]
theorem fine_from {r : Rp} (h : rightR r = true) {s : List UInt8} (hs : Sep s) : Fine (ruleFrom s r) := fun p hp => by
  rcases List.mem_cons.1 hp with rfl | hp
  · exact ⟨good_sym (show symB wordRule = true by decide) 0, hs⟩
  · exact rule_fine h p (List.mem_of_mem_tail hp)
theorem safe_from {r : Rp} (h : rightR r = true) (s : List UInt8) : SafeAll (ruleFrom s r) := by
  have e := rule_safe h (R := []) trivial
  rw [List.append_nil] at e
  exact e
theorem lex_two {a b : Rp} (ha : rightR a = true) (hb : rightR b = true) {s : List UInt8} (hs : Sep s) (q : Nat) :
    ∃ us, lexA rightK (textR a ++ (s ++ textR b)) q = .ok us ∧ us.map kt = ruleK a ++ ruleK b := by
  obtain ⟨us, h1, h2⟩ := lex_rule ha (safe_from hb s) (fine_from hb hs) q
  rw [glue_from] at h1
  rw [kt_from] at h2
  exact ⟨us, h1, h2⟩
theorem sep_line : Sep [10] := sep_blank rfl sep_nil
theorem ruleK_len (r : Rp) : 1 ≤ (ruleK r).length := by simp [ruleK, rulePs]
/-- One at its place behind the other. -/
theorem readR_second {a b : Rp} (hb : rightR b = true) : readR (ruleK a ++ ruleK b) (ruleK a).length = .ok (b, (ruleK a ++ ruleK b).length) := by
  unfold readR
  rw [List.drop_left]
  have e := reads_rule (G := fun _ => True) hb [] (ruleK a).length trivial
  rw [List.append_nil] at e
  rw [e]
  simp only
  rw [if_pos hb, List.length_append]
/-- What is one rule's text is none of two. -/
theorem two_none {a b : Rp} (ha : rightR a = true) : readR (ruleK a ++ ruleK b) 0 = .ok (a, (ruleK a).length) ∧ (ruleK a).length ≠ (ruleK a ++ ruleK b).length := by
  refine ⟨readR_rule ha _, ?_⟩
  have := ruleK_len b
  rw [List.length_append]; omega
end Go.Proofs.YtcjnhhbcleljmaaGreatDoor.V

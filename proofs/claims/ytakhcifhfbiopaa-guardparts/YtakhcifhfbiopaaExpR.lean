/- A variable's value put in its place; chains of numbers added: what they come to, in plain words. No program in it. -/
import Derived.Test.YtakhcifhfbiopaaExpP
namespace Go.Proofs.Ytakhcifhfbiopaa.V
open N (doL sumL inB)

/-- A variable with its value put in its place. -/
def putO (b : List Bb) (o : Oo) : Oo := if o.1 = 1 then (match getL b o.2.1 with
  | some v => (2, ⟨#[]⟩, v)
  | none => o) else o
def boundO (b : List Bb) (o : Oo) : Prop := o.1 = 1 → ∃ v, getL b o.2.1 = some v
theorem put_push (b : List Bb) (o : Oo) : pushO (putO b o) = pushO o := by
  unfold putO
  split
  · rename_i h
    split
    · simp [pushO, h]
    · rfl
  · rfl
theorem put_right {b : List Bb} (hb : listB b = true) {o : Oo} (h : rightO o = true) : rightO (putO b o) = true := by
  unfold putO
  split
  · split
    · rename_i v hv
      have := list_right hb (get_mem hv)
      simp only [rightBd, Bool.and_eq_true] at this
      have h2 := this.2
      exact (show (decide ((⟨#[]⟩ : ByteArray).size = 0) && rightVv v) = true by rw [h2]; rfl)
    · exact h
  · exact h
theorem put_run (b : List Bb) : ∀ (l : List Oo) (n : Nat), runD n (l.map (putO b)) = runD n l
  | [], _ => rfl
  | o :: l, n => by
    simp only [List.map_cons, runD, stepD, put_push]
    congr 1
    funext m
    exact put_run b l m
theorem put_expr {b : List Bb} (hb : listB b = true) {l : List Oo} (h : exprB l = true) : exprB (l.map (putO b)) = true := by
  obtain ⟨h1, h2, h3⟩ := expr_iff.1 h
  refine expr_iff.2 ⟨by simpa using h1, fun o ho => ?_, by rw [put_run]; exact h3⟩
  obtain ⟨u, hu, rfl⟩ := List.mem_map.1 ho
  exact put_right hb (h2 u hu)
theorem put_step {b : List Bb} {o : Oo} (h : boundO b o) (s : List Vv) : stepV [] s (putO b o) = stepV b s o := by
  by_cases h1 : o.1 = 1
  · obtain ⟨v, hv⟩ := h h1
    simp [stepV, putO, h1, hv]
  · simp [stepV, putO, h1]
theorem put_runV {b : List Bb} : ∀ {l : List Oo} (s : List Vv), (∀ o ∈ l, boundO b o) → runV [] s (l.map (putO b)) = runV b s l
  | [], _, _ => rfl
  | o :: l, s, h => by
    simp only [List.map_cons, runV, put_step (h o (by simp))]
    cases stepV b s o with
    | error e => rfl
    | ok t => exact put_runV t (fun u hu => h u (by simp [hu]))
/-- With each variable's value in its place it comes to the same. -/
theorem put_eval {b : List Bb} {l : List Oo} (h : ∀ o ∈ l, boundO b o) : evalL [] (l.map (putO b)) = evalL b l := by
  unfold evalL; rw [put_runV [] h]
theorem run_bound {b : List Bb} : ∀ {l : List Oo} {s u : List Vv}, runV b s l = .ok u → ∀ o ∈ l, boundO b o
  | [], _, _, _, o, ho => by cases ho
  | o :: l, s, u, h, x, hx => by
    simp only [runV] at h
    cases hs : stepV b s o with
    | error e => rw [hs] at h; cases h
    | ok t =>
      rw [hs] at h
      rcases List.mem_cons.1 hx with rfl | hx
      · intro h1
        cases hg : getL b x.2.1 with
        | none => simp [stepV, h1, hg] at hs
        | some v => exact ⟨v, rfl⟩
      · exact run_bound h x hx
/-- A variable without a value: an error, whatever stands ahead. -/
theorem eval_unbound {b : List Bb} {l : List Oo} (hl : exprB l = true) (h : ¬ ∀ o ∈ l, boundO b o) : (evalL b l).2 ≠ 0 := by
  rcases run_one (b := b) hl with ⟨v, hv⟩ | ⟨e, he⟩
  · exact absurd (run_bound hv) h
  · unfold evalL
    rw [he]
    exact runV_err he
theorem put_unbound {b : List Bb} (hb : listB b = true) {l : List Oo} (hl : exprB l = true) (h : ¬ ∀ o ∈ l, boundO b o) : (evalL [] (l.map (putO b))).2 ≠ 0 := by
  refine eval_unbound (put_expr hb hl) (fun hall => h (fun o ho => ?_))
  intro h1
  cases hg : getL b o.2.1 with
  | some v => exact ⟨v, rfl⟩
  | none =>
    obtain ⟨v, hv⟩ := hall (putO b o) (List.mem_map.2 ⟨o, ho, rfl⟩) (by simp [putO, h1, hg])
    simp [getL] at hv
/-- The variables, in order, each once. -/
def varsO (l : List Oo) : List ByteArray := (l.map (fun o => o.2.1)).foldl withL []
theorem mem_varsO {l : List Oo} {x : ByteArray} : x ∈ varsO l ↔ (∃ o ∈ l, o.2.1 = x) ∧ x.size ≠ 0 := by
  unfold varsO
  rw [(fold_with _ [] List.nodup_nil).2 x]
  simp
theorem put_vars {b : List Bb} {l : List Oo} (hl : exprB l = true) (h : ∀ o ∈ l, boundO b o) : varsO (l.map (putO b)) = [] := by
  rw [List.eq_nil_iff_forall_not_mem]
  intro x hx
  obtain ⟨⟨o, ho, rfl⟩, hz⟩ := mem_varsO.1 hx
  obtain ⟨u, hu, rfl⟩ := List.mem_map.1 ho
  have hr := (expr_iff.1 hl).2.1 u hu
  unfold putO at hz
  split at hz
  · rename_i h1
    obtain ⟨v, hv⟩ := h u hu h1
    rw [hv] at hz
    exact hz rfl
  · rename_i h1
    unfold rightO at hr
    rw [if_neg h1] at hr
    split at hr
    · simp only [Bool.and_eq_true, decide_eq_true_eq] at hr; exact hz hr.1
    · simp only [Bool.and_eq_true, decide_eq_true_eq] at hr; exact hz hr.2.1

/-- A number pushed; two added. -/
def pN (n : Int) : Oo := (2, ⟨#[]⟩, (1, n, ⟨#[]⟩))
def aN : Oo := (3, ⟨#[]⟩, zeroV)
def leftC (r : List Int) : List Oo := r.flatMap (fun n => [pN n, aN])
theorem step_pN (s : List Vv) (n : Int) : stepV [] s (pN n) = .ok ((1, n, ⟨#[]⟩) :: s) := by simp [stepV, pN]
theorem step_aN (s : List Vv) (x y : Int) : stepV [] ((1, y, ⟨#[]⟩) :: (1, x, ⟨#[]⟩) :: s) aN = if (doL 3 x y).2 = 0 then .ok ((1, (doL 3 x y).1, ⟨#[]⟩) :: s) else .error (doL 3 x y).2 := by
  rfl
/-- A chain is the sum, from the first one on. -/
theorem left_run : ∀ (r : List Int) (x : Int), runV [] [(1, x, ⟨#[]⟩)] (leftC r) = if (sumL x r).2 = 0 then .ok [(1, (sumL x r).1, ⟨#[]⟩)] else .error (sumL x r).2
  | [], x => by simp [leftC, runV, sumL]
  | n :: r, x => by
    have e : leftC (n :: r) = pN n :: aN :: leftC r := rfl
    rw [e]
    simp only [runV, step_pN, step_aN, sumL]
    by_cases h : (doL 3 x n).2 = 0
    · simp only [h, if_true]
      exact left_run r _
    · simp only [h, if_false]
theorem left_eval (x : Int) (r : List Int) : evalL [] (pN x :: leftC r) = if (sumL x r).2 = 0 then ((1, (sumL x r).1, ⟨#[]⟩), 0) else (zeroV, (sumL x r).2) := by
  unfold evalL
  simp only [runV, step_pN, left_run]
  by_cases h : (sumL x r).2 = 0 <;> simp [h]
theorem do_add {a b : Int} : (doL 3 a b).2 = 0 ∧ (doL 3 a b).1 = a + b ∨ (doL 3 a b).2 = 4 := by
  unfold doL N.res
  simp only [true_or, if_true]
  split
  · split
    · exact Or.inl ⟨rfl, rfl⟩
    · exact Or.inr rfl
  · exact Or.inr rfl
theorem sum_add : ∀ (r : List Int) (x : Int), ((sumL x r).2 = 0 ∧ (sumL x r).1 = x + r.sum) ∨ (sumL x r).2 = 4
  | [], x => by simp [sumL]
  | n :: r, x => by
    simp only [sumL]
    rcases do_add (a := x) (b := n) with ⟨h1, h2⟩ | h
    · rw [if_pos h1, h2]
      rcases sum_add r (x + n) with ⟨h3, h4⟩ | h3
      · left; refine ⟨h3, ?_⟩; rw [h4, List.sum_cons]; omega
      · exact Or.inr h3
    · rw [if_neg (by omega)]; exact Or.inr h
/-- The other way about: all pushed, then added. -/
theorem push_run : ∀ (r : List Int) (s : List Vv), runV [] s (r.map pN) = .ok ((r.map (fun n => ((1, n, ⟨#[]⟩) : Vv))).reverse ++ s)
  | [], _ => rfl
  | n :: r, s => by
    simp only [List.map_cons, runV, step_pN]
    rw [push_run r]
    simp
theorem adds_run : ∀ (s : List Int) (y : Int), (runV [] ((1, y, ⟨#[]⟩) :: s.map (fun n => ((1, n, ⟨#[]⟩) : Vv))) (List.replicate s.length aN) = .ok [(1, y + s.sum, ⟨#[]⟩)]) ∨ runV [] ((1, y, ⟨#[]⟩) :: s.map (fun n => ((1, n, ⟨#[]⟩) : Vv))) (List.replicate s.length aN) = .error 4
  | [], y => by left; simp [runV]
  | x :: s, y => by
    simp only [List.map_cons, List.length_cons, List.replicate_succ, runV, step_aN]
    rcases do_add (a := x) (b := y) with ⟨h1, h2⟩ | h
    · simp only [h1, if_true, h2]
      rcases adds_run s (x + y) with h | h
      · left; rw [h, List.sum_cons]; congr 4; omega
      · exact Or.inr h
    · right
      have h0 : ¬ (doL 3 x y).2 = 0 := by omega
      rw [if_neg h0, h]
theorem rev_sum (r : List Int) : r.reverse.sum = r.sum := by
  induction r with
  | nil => rfl
  | cons n r ih => simp [List.sum_append, ih]; omega
theorem right_eval (x : Int) (r : List Int) : evalL [] ((x :: r).map pN ++ List.replicate r.length aN) = ((1, x + r.sum, ⟨#[]⟩), 0) ∨ evalL [] ((x :: r).map pN ++ List.replicate r.length aN) = (zeroV, 4) := by
  unfold evalL
  rw [runV_app, push_run]
  simp only [List.append_nil]
  obtain ⟨y, s, hs⟩ : ∃ y s, (x :: r).reverse = y :: s := by
    cases h : (x :: r).reverse with
    | nil => simp at h
    | cons y s => exact ⟨y, s, rfl⟩
  have hl : s.length = r.length := by have := congrArg List.length hs; simp at this; omega
  have hsum : y + s.sum = x + r.sum := by have := congrArg List.sum hs; rw [rev_sum] at this; simpa using this.symm
  rw [← List.map_reverse, hs, List.map_cons, ← hl, ← hsum]
  rcases adds_run s y with h | h
  · left; rw [h]
  · right; rw [h]
/-- What ExprSums asks. -/
theorem sums_two (x : Int) (r : List Int) : (evalL [] ((x :: r).map pN ++ List.replicate r.length aN)).2 = 4 ∨ (evalL [] (pN x :: leftC r)).2 = 4 ∨ ((evalL [] ((x :: r).map pN ++ List.replicate r.length aN)).2 = 0 ∧ (evalL [] ((x :: r).map pN ++ List.replicate r.length aN)).1 = (evalL [] (pN x :: leftC r)).1) := by
  rcases right_eval x r with h | h
  · rw [h, left_eval]
    rcases sum_add r x with ⟨h1, h2⟩ | h1
    · right; right
      rw [if_pos h1, h2]
      exact ⟨rfl, rfl⟩
    · right; left
      rw [if_neg (by omega), h1]
  · left; rw [h]
end Go.Proofs.Ytakhcifhfbiopaa.V

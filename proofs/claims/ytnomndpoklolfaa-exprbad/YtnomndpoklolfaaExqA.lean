/- What ExprSums asks of chains of numbers added, in plain words. No program in it. -/
import Derived.Test.YtnomndpoklolfaaExpR
namespace Go.Proofs.Ytnomndpoklolfaa.V
open N (doL sumL inB)

/-- The chain, from the first number on. -/
def leftO : List Int → List Oo
  | [] => []
  | x :: r => pN x :: leftC r
theorem leftC_app (r : List Int) (n : Int) : leftC (r ++ [n]) = leftC r ++ [pN n, aN] := by simp [leftC]
theorem left_one (n : Int) : leftO ([] ++ [n]) = leftO [] ++ [pN n] := rfl
theorem left_more {l : List Int} (h : l ≠ []) (n : Int) : leftO (l ++ [n]) = leftO l ++ [pN n] ++ [aN] := by
  match l, h with
  | x :: r, _ =>
    rw [List.cons_append, leftO, leftC_app, leftO]
    simp
theorem leftC_len (r : List Int) : (leftC r).length = 2 * r.length := by
  induction r with
  | nil => rfl
  | cons n r ih =>
    have e : leftC (n :: r) = pN n :: aN :: leftC r := rfl
    rw [e]; simp [ih]; omega
theorem left_len (l : List Int) : (leftO l).length = 2 * l.length - 1 := by
  cases l with
  | nil => rfl
  | cons x r => simp [leftO, leftC_len]; omega
/-- The other way about. -/
def rightC (l : List Int) (k : Nat) : List Oo := l.map pN ++ List.replicate k aN
theorem right_more (l : List Int) (k : Nat) : rightC l (k + 1) = rightC l k ++ [aN] := by
  unfold rightC
  rw [List.replicate_succ', List.append_assoc]
theorem right_zero (l : List Int) : rightC l 0 = l.map pN := by simp [rightC]
theorem rightC_len (l : List Int) (k : Nat) : (rightC l k).length = l.length + k := by simp [rightC]

def small (n : Int) : Prop := -1152921504606846976 < n ∧ n < 1152921504606846976
theorem small_in {n : Int} (h : small n) : inB n = true := N.inB_t (by unfold small at h; omega) (by unfold small at h; omega)
theorem right_pN {n : Int} (h : small n) : rightO (pN n) = true := by
  unfold small at h
  have e : rightO (pN n) = (decide ((⟨#[]⟩ : ByteArray).size = 0) && rightVv (1, n, ⟨#[]⟩)) := rfl
  rw [e, Bool.and_eq_true]
  refine ⟨rfl, ?_⟩
  simp [rightVv, rightB]
  omega
theorem right_aN : rightO aN = true := rfl
theorem run_left : ∀ (r : List Int), runD 1 (leftC r) = some 1
  | [] => rfl
  | n :: r => by
    have e : leftC (n :: r) = pN n :: aN :: leftC r := rfl
    have e2 : runD 1 (pN n :: aN :: leftC r) = runD 1 (leftC r) := rfl
    rw [e, e2]
    exact run_left r
theorem mem_leftC {r : List Int} {o : Oo} (h : o ∈ leftC r) : o = aN ∨ ∃ n ∈ r, o = pN n := by
  unfold leftC at h
  rw [List.mem_flatMap] at h
  obtain ⟨n, hn, ho⟩ := h
  simp only [List.mem_cons, List.not_mem_nil, or_false] at ho
  rcases ho with rfl | rfl
  · exact Or.inr ⟨n, hn, rfl⟩
  · exact Or.inl rfl
theorem left_right {l : List Int} (h1 : l ≠ []) (h8 : l.length ≤ 8) (hs : ∀ n ∈ l, small n) : exprB (leftO l) = true := by
  match l, h1 with
  | x :: r, _ =>
    refine expr_iff.2 ⟨⟨?_, ?_⟩, fun o ho => ?_, ?_⟩
    · simp [leftO]
    · rw [left_len]; omega
    · rw [leftO, List.mem_cons] at ho
      rcases ho with rfl | ho
      · exact right_pN (hs x (by simp))
      · rcases mem_leftC ho with rfl | ⟨n, hn, rfl⟩
        · exact right_aN
        · exact right_pN (hs n (by simp [hn]))
    · have e : runD 0 (leftO (x :: r)) = runD 1 (leftC r) := rfl
      rw [e]; exact run_left r
theorem run_pushes : ∀ (l : List Int) (d : Nat), runD d (l.map pN) = some (d + l.length)
  | [], d => by simp [runD]
  | n :: l, d => by
    have e : runD d ((n :: l).map pN) = runD (d + 1) (l.map pN) := rfl
    rw [e, run_pushes l (d + 1)]
    simp; omega
theorem run_adds : ∀ (k d : Nat), runD (d + 1 + k) (List.replicate k aN) = some (d + 1)
  | 0, d => by simp [runD]
  | k + 1, d => by
    rw [List.replicate_succ, runD]
    have e : stepD (d + 1 + (k + 1)) aN = some (d + 1 + k) := by
      have hp : pushO aN = false := rfl
      unfold stepD
      rw [hp, if_neg (by simp), if_pos (by omega)]
      simp
    rw [e, Option.bind_some]
    exact run_adds k d
theorem right_right {l : List Int} (h1 : l ≠ []) (h8 : l.length ≤ 8) (hs : ∀ n ∈ l, small n) : exprB (rightC l (l.length - 1)) = true := by
  have hl : 1 ≤ l.length := by cases l with
    | nil => exact absurd rfl h1
    | cons x r => simp
  refine expr_iff.2 ⟨⟨?_, ?_⟩, fun o ho => ?_, ?_⟩
  · rw [rightC_len]; omega
  · rw [rightC_len]; omega
  · unfold rightC at ho
    rcases List.mem_append.1 ho with ho | ho
    · obtain ⟨n, hn, rfl⟩ := List.mem_map.1 ho
      exact right_pN (hs n hn)
    · rw [List.eq_of_mem_replicate ho]; exact right_aN
  · unfold rightC
    rw [run_app, run_pushes, Option.bind_some]
    have := run_adds (l.length - 1) 0
    rw [show 0 + 1 + (l.length - 1) = 0 + l.length by omega] at this
    exact this
theorem sum_first {x : Int} {r : List Int} (h : small x) : sumL 0 (x :: r) = sumL x r := by
  have h2 := small_in h
  unfold small at h
  have e : doL 3 0 x = (x, 0) := by
    rw [N.doL_add rfl h2, Int.zero_add, N.res_t (by omega) (by omega)]
  rw [sumL, e]
  rfl
theorem sums_facts {l : List Int} {v u : Vv} {e s f g : Int} (h1 : l ≠ []) (hs : ∀ n ∈ l, small n) (hv : evalL [] (leftO l) = (v, e)) (hn : sumL 0 l = (s, f)) (hu : evalL [] (rightC l (l.length - 1)) = (u, g)) :
    e = f ∧ (e = 0 → v = (1, s, ⟨#[]⟩)) ∧ (g = 4 ∨ e = 4 ∨ g = 0 ∧ u = v) := by
  match l, h1 with
  | x :: r, _ =>
    have e1 : leftO (x :: r) = pN x :: leftC r := rfl
    have e2 : rightC (x :: r) ((x :: r).length - 1) = (x :: r).map pN ++ List.replicate r.length aN := rfl
    have h2 := sums_two x r
    rw [sum_first (hs x (by simp))] at hn
    rw [e1] at hv
    rw [e2] at hu
    rw [hv, hu] at h2
    rw [left_eval, hn] at hv
    simp only at hv h2
    refine ⟨?_, ?_, h2⟩
    · split at hv
      · rename_i h0
        rw [← (Prod.mk.inj hv).2, h0]
      · rw [← (Prod.mk.inj hv).2]
    · intro h0
      split at hv
      · exact (Prod.mk.inj hv).1.symm
      · rename_i hf
        exact absurd ((Prod.mk.inj hv).2.trans h0) hf
/-- What is left of a number. -/
def remI (z : Int) : Int := z.tmod 1152921504606846976
theorem rem_small (z : Int) : small (remI z) := by
  unfold small remI
  have h1 := Int.tmod_lt_of_pos z (b := 1152921504606846976) (by decide)
  have h2 := Int.lt_tmod_of_pos z (b := 1152921504606846976) (by decide)
  omega
end Go.Proofs.Ytnomndpoklolfaa.V

/- The walk of constablelaw02.NumBack: it answers true, whatever the numbers. -/
import Derived.Test.YtmcodmpanakmbaaOwnE
namespace Go.Proofs.Ytmcodmpanakmbaa
open Go.RowKit
open N

theorem info3 : (Try.prog.info? 3).map (fun i => (i.zero, i.size, i.bytes)) = some (some (.int .i64 0), 1, 8) := by kernel_rfl

theorem sum_own {w : World} {base : Nat} {v : Value} {k : Nat} {a sv se : Int} (hk : k ≤ 1000) (h : w.ownsRow base 3 1 v k (List.replicate k (.int .i64 a))) (hr : Hid (sumL 0 (List.replicate k a) = (sv, se))) :
    Calls Try.prog 9 #[v] w fun r w' => r = .returned (.tuple #[.int .i64 sv, .int .i64 se]) ∧ w' = w := by
  have h0 := h
  obtain ⟨_, ⟨rfl, rfl⟩ | ⟨g, cap, cur, rfl, _, _, _, _, _, _⟩⟩ := h0
  · have := unhide hr
    simp [sumL] at this
    obtain ⟨rfl, rfl⟩ := this
    exact sum_empty none 0 w
  · refine sum_any g 0 k cap (List.replicate k a) sv se w (by simp) (by simp) (by omega) (fun j hj => ?_) hr
    have := h.cellAt j (by omega)
    rw [Nat.zero_add, this]
    simp [hj]

theorem rel_push {B k : Nat} {a : Int} {w wr w1 : World} {u v' : Value} {o : Obj} (hown : wr.ownsRow B 3 1 u k (List.replicate k (.int .i64 a))) (hnx : Below B w wr) (hB : B ≤ wr.heap.size)
    (hown' : w1.ownsRow B 3 1 v' (k + 1) (List.replicate k (.int .i64 a) ++ [.int .i64 a])) (hgrow : (wr.alloc o).grownBy w1 u.ownBlock) :
    w1.ownsRow B 3 1 v' (k + 1) (List.replicate (k + 1) (.int .i64 a)) ∧ Below B w w1 :=
  ⟨by rw [List.replicate_succ']; exact hown', (hnx.alloc hB o).grown hgrow (by simp; omega) (fun j hj => (hown.lt j hj).1)⟩

/-- Times is added as often. -/
theorem sum_rep (a : Int) (m : Nat) (s : Int) (ha : inB a = true) (hs : inB s = true) (hsa : (0 ≤ a ∧ 0 ≤ s) ∨ (a ≤ 0 ∧ s ≤ 0)) : sumL s (List.replicate m a) = res (s + m * a) := by
  induction m generalizing s with
  | zero =>
    have := inB_p hs
    simp [sumL, res_t this.1 this.2]
  | succ m ih =>
    have pa := inB_p ha
    have ps := inB_p hs
    rw [List.replicate_succ]
    unfold sumL
    rw [doL_add hs ha]
    have e : s + ((m + 1 : Nat) : Int) * a = s + a + m * a := by rw [Int.natCast_add]; rw [Int.add_mul]; simp; omega
    have hma : (0 ≤ a → 0 ≤ (m : Int) * a) ∧ (a ≤ 0 → (m : Int) * a ≤ 0) :=
      ⟨fun h => Int.mul_nonneg (by omega) h, fun h => Int.mul_nonpos_of_nonneg_of_nonpos (by omega) h⟩
    by_cases hi : -4611686018427387904 ≤ s + a ∧ s + a ≤ 4611686018427387904
    · rw [res_t hi.1 hi.2]
      simp only [if_true]
      rw [ih (s + a) (inB_t hi.1 hi.2) (by omega), e]
    · rw [res_f hi]
      rw [if_neg (by decide), e, res_f]
      generalize (m : Int) * a = t at *
      omega
theorem sum_far (a : Int) (m : Nat) (ha : inB a = false) : sumL 0 (List.replicate (m + 1) a) = (0, 4) := by
  rw [List.replicate_succ]
  unfold sumL
  rw [doL_out (Or.inl rfl) (Or.inr ha)]
  simp
theorem times (a : Int) (m : Nat) (h0 : 1 ≤ m) (h1 : m < 20) : sumL 0 (List.replicate m a) = doL 5 a m := by
  cases ha : inB a
  · rw [doL_out (by decide) (Or.inl ha)]
    obtain ⟨k, rfl⟩ : ∃ k, m = k + 1 := ⟨m - 1, by omega⟩
    exact sum_far a k ha
  · rw [doL_mul ha (inB_t (by omega) (by omega)), sum_rep a m 0 ha (by decide) (by omega), Int.mul_comm]
    simp
theorem back_add {a b s e : Int} (h : doL 3 a b = (s, e)) : (e = 0 ∧ doL 4 s b = (a, 0)) ∨ (e == 0) = false := by
  by_cases hb : inB a = true ∧ inB b = true
  · obtain ⟨ha, hb⟩ := hb
    have pa := inB_p ha
    have pb := inB_p hb
    rw [doL_add ha hb] at h
    by_cases hi : -4611686018427387904 ≤ a + b ∧ a + b ≤ 4611686018427387904
    · rw [res_t hi.1 hi.2] at h
      cases h
      refine Or.inl ⟨rfl, ?_⟩
      rw [doL_sub (inB_t hi.1 hi.2) hb, show a + b - b = a by omega, res_t pa.1 pa.2]
    · rw [res_f hi] at h
      cases h
      exact Or.inr rfl
  · have hb' : inB a = false ∨ inB b = false := by cases ha : inB a <;> cases hx : inB b <;> simp_all
    rw [doL_out (Or.inl rfl) hb'] at h
    cases h
    exact Or.inr rfl
theorem back_sub {a b s e : Int} (h : doL 4 a b = (s, e)) : (e = 0 ∧ doL 3 s b = (a, 0)) ∨ (e == 0) = false := by
  by_cases hb : inB a = true ∧ inB b = true
  · obtain ⟨ha, hb⟩ := hb
    have pa := inB_p ha
    have pb := inB_p hb
    rw [doL_sub ha hb] at h
    by_cases hi : -4611686018427387904 ≤ a - b ∧ a - b ≤ 4611686018427387904
    · rw [res_t hi.1 hi.2] at h
      cases h
      refine Or.inl ⟨rfl, ?_⟩
      rw [doL_add (inB_t hi.1 hi.2) hb, show a - b + b = a by omega, res_t pa.1 pa.2]
    · rw [res_f hi] at h
      cases h
      exact Or.inr rfl
  · have hb' : inB a = false ∨ inB b = false := by cases ha : inB a <;> cases hx : inB b <;> simp_all
    rw [doL_out (Or.inr (Or.inl rfl)) hb'] at h
    cases h
    exact Or.inr rfl
end Go.Proofs.Ytmcodmpanakmbaa

/- What constablekeep.Binds answers. -/
import Derived.Test.YtnomndpoklolfaaSubA
namespace Go.Proofs.Ytnomndpoklolfaa.Sb
open Go.RowKit
open V

theorem list_ne {xs ys : List Bb} {k : Nat} (hx : k < xs.length) (hy : k < ys.length) (h : xs[k] ≠ ys[k]) : xs ≠ ys := by
  intro e
  subst e
  exact h rfl
theorem take_same {xs ys : List Bb} {k : Nat} (hx : k < xs.length) (hy : k < ys.length) (h : xs[k] = ys[k]) (hp : xs.take k = ys.take k) : xs.take (k + 1) = ys.take (k + 1) := by
  rw [List.take_succ_eq_append_getElem hx, List.take_succ_eq_append_getElem hy, hp, h]

set_option maxHeartbeats 2000000 in
theorem keepBinds_any (a a' : Option Addr) (len len' cap cap' : Nat) (xs ys : List Bb) (w : World) (hr : RowB w a xs) (hr' : RowB w a' ys) (hl : len ≤ xs.length) (hl' : xs.length ≤ len) (hm : len' ≤ ys.length) (hm' : ys.length ≤ len') (h1k : len ≤ 1000) :
    Calls Try.prog 18 #[.slice a len cap, .slice a' len' cap'] w fun e w' => e = .returned (.bool (decide (xs = ys))) ∧ Below w.heap.size w w' := by
  by_cases hll : len = len'
  · subst hll
    go_enter Try.func18, Try.ntmps18
    go_wp2_with fail
    go_loopw [5] (fun i wr => ∃ k : Nat, k ≤ len ∧ i = .int .i64 k ∧ Hid (xs.take k = ys.take k) ∧ (∃ d, wr = w.drewN d)) (fun i _ => len - (intOf i).toNat)
    case atStart => exact ⟨0, Nat.zero_le _, rfl, hide (by simp), 0, rfl⟩
    case round =>
      obtain ⟨k, hk, rfl, HK, d, rfl⟩ := hrel
      by_cases hlt : k < len
      · obtain ⟨b, o, ha, hbl, c0, c1, c2, c3⟩ := hr.up (show k < xs.length by omega)
        obtain ⟨b', o', ha', hbl', c0', c1', c2', c3'⟩ := hr'.up (show k < ys.length by omega)
        subst ha
        subst ha'
        have hE := eqB_in xs[k] ys[k]
        by_cases heq : xs[k] = ys[k]
        · have HN := hide (take_same (show k < xs.length by omega) (show k < ys.length by omega) heq (unhide HK))
          rw [decide_eq_true heq] at hE
          clear heq
          generalize xs[k] = x at c0 c1 c2 c3 hE
          generalize ys[k] = y at c0' c1' c2' c3' hE
          go_wp2_with fail
          go_quiet (fail)
          go_wp2_with fail
          go_roundw
          case rel => exact ⟨k + 1, by omega, by go_num, HN, d + nq, by simp⟩
          case measure => simp [intOf]; omega
        · have HN := hide (list_ne (show k < xs.length by omega) (show k < ys.length by omega) heq)
          rw [decide_eq_false heq] at hE
          clear heq
          generalize xs[k] = x at c0 c1 c2 c3 hE
          generalize ys[k] = y at c0' c1' c2' c3' hE
          go_wp2_with fail
          go_quiet (fail)
          go_wp2_with fail
          go_ret
          exact ⟨ret_bool' (by rw [decide_eq_false (unhide HN)]), below_drewN (below_drewN (Below.refl _ _) d) nq⟩
      · have HN : Hid (xs = ys) := by
          have h := unhide HK
          rw [List.take_of_length_le (by omega), List.take_of_length_le (by omega)] at h
          exact h
        go_wp2_with fail
        go_ret
        exact ⟨ret_bool' (by rw [decide_eq_true (unhide HN)]), below_drewN (Below.refl _ _) d⟩
  · have HN : Hid (decide (xs = ys) = false) := by
      refine decide_eq_false (fun e => ?_)
      subst e
      omega
    have el : ((len : Int) != len') = true := by simp; omega
    go_enter Try.func18, Try.ntmps18
    go_wp2_with fail
    go_ret
    exact ⟨ret_bool' (unhide HN).symm, Below.refl _ _⟩
end Go.Proofs.Ytnomndpoklolfaa.Sb

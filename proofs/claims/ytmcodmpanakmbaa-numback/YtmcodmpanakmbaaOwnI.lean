/- The walk of constablelaw02.NumBack: it answers true, whatever the numbers. -/
import Derived.Test.YtmcodmpanakmbaaOwnG
import Derived.Test.YtmcodmpanakmbaaOwnH
namespace Go.Proofs.Ytmcodmpanakmbaa
open Go.RowKit
open N

set_option maxHeartbeats 4000000 in
theorem back_walk (a b n u s1 e1 s2 e2 p e3 sv se : Int) (m : Nat) (w : World) (hu : IntKind.u64.wrap n = u) (u0 : 0 ≤ u) (hm : u % 20 = (m : Int)) (hm20 : m < 20)
    (H1 : Hid (doL 3 a b = (s1, e1))) (c1 : (e1 = 0 ∧ Hid (doL 4 s1 b = (a, 0))) ∨ (e1 == 0) = false)
    (H2 : Hid (doL 4 a b = (s2, e2))) (c2 : (e2 = 0 ∧ Hid (doL 3 s2 b = (a, 0))) ∨ (e2 == 0) = false)
    (H3 : Hid (doL 5 a m = (p, e3))) (H4 : Hid (sumL 0 (List.replicate m a) = (sv, se)))
    (hc : (m = 0 ∧ p = 0 ∧ sv = 0 ∧ se = 0 ∧ ((-4611686018427387904 ≤ a ∧ a ≤ 4611686018427387904 ∧ e3 = 0) ∨ (-4611686018427387904 ≤ a ∧ 4611686018427387904 < a ∧ e3 = 4) ∨ (a < -4611686018427387904 ∧ e3 = 4))) ∨ (1 ≤ m ∧ p = sv ∧ e3 = se)) :
    Calls Try.prog 4 #[.int .i64 a, .int .i64 b, .int .i64 n] w fun r w' => r = .returned (.bool true) ∧ Below w.heap.size w w' := by
  obtain ⟨i0, hi, hz0, hz1, hz2⟩ := info_parts info3
  rcases c1 with ⟨rfl, K1⟩ | c1 <;> rcases c2 with ⟨rfl, K2⟩ | c2
  · go_enter Try.func4, Try.ntmps4
    go_wp2_with fail
    refine (do_any 3 a b _ _ _ H1).mono ?_; rintro r w' ⟨rfl, rfl⟩
    go_wp2_with fail
    refine (do_any 4 s1 b _ _ _ K1).mono ?_; rintro r w' ⟨rfl, rfl⟩
    go_wp2_with fail
    refine (do_any 4 a b _ _ _ H2).mono ?_; rintro r w' ⟨rfl, rfl⟩
    go_wp2_with fail
    refine (do_any 3 s2 b _ _ _ K2).mono ?_; rintro r w' ⟨rfl, rfl⟩
    go_wp2_with fail
    clear hu hm u0
    go_loopw [15, 16] (fun v i wr => ∃ k : Nat, k ≤ m ∧ i = .int .i64 k ∧ wr.ownsRow w'.heap.size 3 1 v k (List.replicate k (.int .i64 a)) ∧ Below w'.heap.size w' wr) (fun _ i _ => m - (intOf i).toNat)
    case atStart => exact ⟨0, Nat.zero_le _, rfl, World.ownsRow_nil _ _ _ _, Below.refl _ _⟩
    case round =>
      obtain ⟨k, hk, rfl, hown, hnx⟩ := hrel
      by_cases hlt : k < m
      · go_wp2_with (at_builtin; refine wpList_append_own _ rfl _ _ 22 rfl w'.heap.size 3 i0 (.int .i64 0) 1 8 Try.underlying22 hi hz0 hz1 hz2 rfl (by decide) _ _ _ rfl (hown.alloc _) ⟨wr.heap.size, 0, none⟩ 1 1 [.int .i64 a] rfl rfl ?c1 ?c2 ?c3 ?c4 ?c5 ?_)
        case c1 =>
          intro j u hj
          match j, hj with
          | 0, hj => simp at hj; subst hj; simp [Addr.add]
        case c2 => intro u hu; simp at hu; subst hu; rfl
        case c3 => unfold maxLen; omega
        case c4 => omega
        case c5 => have := hnx.size; simp; omega
        intro v' w1 hown' hgrow _
        have R := rel_push hown hnx hnx.size hown' hgrow
        clear hown' hgrow hown hnx
        go_wp2
        go_roundw
        case rel => exact ⟨k + 1, by omega, by go_num, R.1, R.2⟩
        case measure => simp [intOf]; omega
      · have hkm : k = m := by omega
        subst hkm
        rcases hc with ⟨rfl, rfl, rfl, rfl, hc⟩ | ⟨m1, rfl, rfl⟩
        case' inl => rcases hc with ⟨a0, a1, rfl⟩ | ⟨a0, a1, rfl⟩ | ⟨a0, rfl⟩
        case' inl.inr.inl => have d1 : decide (a ≤ 4611686018427387904) = false := decide_eq_false (by omega)
        case' inl.inr.inr => have d0 : decide (-4611686018427387904 ≤ a) = false := decide_eq_false (by omega)
        all_goals
          go_wp2_with fail
          refine (do_any 5 a _ _ _ _ H3).mono ?_; rintro r w2 ⟨rfl, rfl⟩
          go_wp2_with fail
          refine (sum_own (by omega) hown H4).mono ?_; rintro r w2 ⟨rfl, rfl⟩
          clear hown
          go_wp2_with (go_at_call 10; refine (wakes_any _).mono ?_; rintro r w3 ⟨rfl, k3⟩)
          all_goals go_ret
          all_goals exact ⟨rfl, bt hnx (by assumption)⟩
  · go_enter Try.func4, Try.ntmps4
    go_wp2_with fail
    refine (do_any 3 a b _ _ _ H1).mono ?_; rintro r w' ⟨rfl, rfl⟩
    go_wp2_with fail
    refine (do_any 4 s1 b _ _ _ K1).mono ?_; rintro r w' ⟨rfl, rfl⟩
    go_wp2_with fail
    refine (do_any 4 a b _ _ _ H2).mono ?_; rintro r w' ⟨rfl, rfl⟩
    go_wp2_with fail
    clear hu hm u0
    go_loopw [15, 16] (fun v i wr => ∃ k : Nat, k ≤ m ∧ i = .int .i64 k ∧ wr.ownsRow w'.heap.size 3 1 v k (List.replicate k (.int .i64 a)) ∧ Below w'.heap.size w' wr) (fun _ i _ => m - (intOf i).toNat)
    case atStart => exact ⟨0, Nat.zero_le _, rfl, World.ownsRow_nil _ _ _ _, Below.refl _ _⟩
    case round =>
      obtain ⟨k, hk, rfl, hown, hnx⟩ := hrel
      by_cases hlt : k < m
      · go_wp2_with (at_builtin; refine wpList_append_own _ rfl _ _ 22 rfl w'.heap.size 3 i0 (.int .i64 0) 1 8 Try.underlying22 hi hz0 hz1 hz2 rfl (by decide) _ _ _ rfl (hown.alloc _) ⟨wr.heap.size, 0, none⟩ 1 1 [.int .i64 a] rfl rfl ?c1 ?c2 ?c3 ?c4 ?c5 ?_)
        case c1 =>
          intro j u hj
          match j, hj with
          | 0, hj => simp at hj; subst hj; simp [Addr.add]
        case c2 => intro u hu; simp at hu; subst hu; rfl
        case c3 => unfold maxLen; omega
        case c4 => omega
        case c5 => have := hnx.size; simp; omega
        intro v' w1 hown' hgrow _
        have R := rel_push hown hnx hnx.size hown' hgrow
        clear hown' hgrow hown hnx
        go_wp2
        go_roundw
        case rel => exact ⟨k + 1, by omega, by go_num, R.1, R.2⟩
        case measure => simp [intOf]; omega
      · have hkm : k = m := by omega
        subst hkm
        rcases hc with ⟨rfl, rfl, rfl, rfl, hc⟩ | ⟨m1, rfl, rfl⟩
        case' inl => rcases hc with ⟨a0, a1, rfl⟩ | ⟨a0, a1, rfl⟩ | ⟨a0, rfl⟩
        case' inl.inr.inl => have d1 : decide (a ≤ 4611686018427387904) = false := decide_eq_false (by omega)
        case' inl.inr.inr => have d0 : decide (-4611686018427387904 ≤ a) = false := decide_eq_false (by omega)
        all_goals
          go_wp2_with fail
          refine (do_any 5 a _ _ _ _ H3).mono ?_; rintro r w2 ⟨rfl, rfl⟩
          go_wp2_with fail
          refine (sum_own (by omega) hown H4).mono ?_; rintro r w2 ⟨rfl, rfl⟩
          clear hown
          go_wp2_with (go_at_call 10; refine (wakes_any _).mono ?_; rintro r w3 ⟨rfl, k3⟩)
          all_goals go_ret
          all_goals exact ⟨rfl, bt hnx (by assumption)⟩
  · go_enter Try.func4, Try.ntmps4
    go_wp2_with fail
    refine (do_any 3 a b _ _ _ H1).mono ?_; rintro r w' ⟨rfl, rfl⟩
    go_wp2_with fail
    refine (do_any 4 a b _ _ _ H2).mono ?_; rintro r w' ⟨rfl, rfl⟩
    go_wp2_with fail
    refine (do_any 3 s2 b _ _ _ K2).mono ?_; rintro r w' ⟨rfl, rfl⟩
    go_wp2_with fail
    clear hu hm u0
    go_loopw [15, 16] (fun v i wr => ∃ k : Nat, k ≤ m ∧ i = .int .i64 k ∧ wr.ownsRow w'.heap.size 3 1 v k (List.replicate k (.int .i64 a)) ∧ Below w'.heap.size w' wr) (fun _ i _ => m - (intOf i).toNat)
    case atStart => exact ⟨0, Nat.zero_le _, rfl, World.ownsRow_nil _ _ _ _, Below.refl _ _⟩
    case round =>
      obtain ⟨k, hk, rfl, hown, hnx⟩ := hrel
      by_cases hlt : k < m
      · go_wp2_with (at_builtin; refine wpList_append_own _ rfl _ _ 22 rfl w'.heap.size 3 i0 (.int .i64 0) 1 8 Try.underlying22 hi hz0 hz1 hz2 rfl (by decide) _ _ _ rfl (hown.alloc _) ⟨wr.heap.size, 0, none⟩ 1 1 [.int .i64 a] rfl rfl ?c1 ?c2 ?c3 ?c4 ?c5 ?_)
        case c1 =>
          intro j u hj
          match j, hj with
          | 0, hj => simp at hj; subst hj; simp [Addr.add]
        case c2 => intro u hu; simp at hu; subst hu; rfl
        case c3 => unfold maxLen; omega
        case c4 => omega
        case c5 => have := hnx.size; simp; omega
        intro v' w1 hown' hgrow _
        have R := rel_push hown hnx hnx.size hown' hgrow
        clear hown' hgrow hown hnx
        go_wp2
        go_roundw
        case rel => exact ⟨k + 1, by omega, by go_num, R.1, R.2⟩
        case measure => simp [intOf]; omega
      · have hkm : k = m := by omega
        subst hkm
        rcases hc with ⟨rfl, rfl, rfl, rfl, hc⟩ | ⟨m1, rfl, rfl⟩
        case' inl => rcases hc with ⟨a0, a1, rfl⟩ | ⟨a0, a1, rfl⟩ | ⟨a0, rfl⟩
        case' inl.inr.inl => have d1 : decide (a ≤ 4611686018427387904) = false := decide_eq_false (by omega)
        case' inl.inr.inr => have d0 : decide (-4611686018427387904 ≤ a) = false := decide_eq_false (by omega)
        all_goals
          go_wp2_with fail
          refine (do_any 5 a _ _ _ _ H3).mono ?_; rintro r w2 ⟨rfl, rfl⟩
          go_wp2_with fail
          refine (sum_own (by omega) hown H4).mono ?_; rintro r w2 ⟨rfl, rfl⟩
          clear hown
          go_wp2_with (go_at_call 10; refine (wakes_any _).mono ?_; rintro r w3 ⟨rfl, k3⟩)
          all_goals go_ret
          all_goals exact ⟨rfl, bt hnx (by assumption)⟩
  · go_enter Try.func4, Try.ntmps4
    go_wp2_with fail
    refine (do_any 3 a b _ _ _ H1).mono ?_; rintro r w' ⟨rfl, rfl⟩
    go_wp2_with fail
    refine (do_any 4 a b _ _ _ H2).mono ?_; rintro r w' ⟨rfl, rfl⟩
    go_wp2_with fail
    clear hu hm u0
    go_loopw [15, 16] (fun v i wr => ∃ k : Nat, k ≤ m ∧ i = .int .i64 k ∧ wr.ownsRow w'.heap.size 3 1 v k (List.replicate k (.int .i64 a)) ∧ Below w'.heap.size w' wr) (fun _ i _ => m - (intOf i).toNat)
    case atStart => exact ⟨0, Nat.zero_le _, rfl, World.ownsRow_nil _ _ _ _, Below.refl _ _⟩
    case round =>
      obtain ⟨k, hk, rfl, hown, hnx⟩ := hrel
      by_cases hlt : k < m
      · go_wp2_with (at_builtin; refine wpList_append_own _ rfl _ _ 22 rfl w'.heap.size 3 i0 (.int .i64 0) 1 8 Try.underlying22 hi hz0 hz1 hz2 rfl (by decide) _ _ _ rfl (hown.alloc _) ⟨wr.heap.size, 0, none⟩ 1 1 [.int .i64 a] rfl rfl ?c1 ?c2 ?c3 ?c4 ?c5 ?_)
        case c1 =>
          intro j u hj
          match j, hj with
          | 0, hj => simp at hj; subst hj; simp [Addr.add]
        case c2 => intro u hu; simp at hu; subst hu; rfl
        case c3 => unfold maxLen; omega
        case c4 => omega
        case c5 => have := hnx.size; simp; omega
        intro v' w1 hown' hgrow _
        have R := rel_push hown hnx hnx.size hown' hgrow
        clear hown' hgrow hown hnx
        go_wp2
        go_roundw
        case rel => exact ⟨k + 1, by omega, by go_num, R.1, R.2⟩
        case measure => simp [intOf]; omega
      · have hkm : k = m := by omega
        subst hkm
        rcases hc with ⟨rfl, rfl, rfl, rfl, hc⟩ | ⟨m1, rfl, rfl⟩
        case' inl => rcases hc with ⟨a0, a1, rfl⟩ | ⟨a0, a1, rfl⟩ | ⟨a0, rfl⟩
        case' inl.inr.inl => have d1 : decide (a ≤ 4611686018427387904) = false := decide_eq_false (by omega)
        case' inl.inr.inr => have d0 : decide (-4611686018427387904 ≤ a) = false := decide_eq_false (by omega)
        all_goals
          go_wp2_with fail
          refine (do_any 5 a _ _ _ _ H3).mono ?_; rintro r w2 ⟨rfl, rfl⟩
          go_wp2_with fail
          refine (sum_own (by omega) hown H4).mono ?_; rintro r w2 ⟨rfl, rfl⟩
          clear hown
          go_wp2_with (go_at_call 10; refine (wakes_any _).mono ?_; rintro r w3 ⟨rfl, k3⟩)
          all_goals go_ret
          all_goals exact ⟨rfl, bt hnx (by assumption)⟩

theorem back_any (a b n : Int) (w : World) : Calls Try.prog 4 #[.int .i64 a, .int .i64 b, .int .i64 n] w fun r w' => r = .returned (.bool true) ∧ Below w.heap.size w w' := by
  obtain ⟨s1, e1, h1⟩ : ∃ x e, doL 3 a b = (x, e) := ⟨_, _, rfl⟩
  obtain ⟨s2, e2, h2⟩ : ∃ x e, doL 4 a b = (x, e) := ⟨_, _, rfl⟩
  have u0 := u64_nonneg n
  obtain ⟨m, hm⟩ : ∃ m : Nat, IntKind.u64.wrap n % 20 = (m : Int) := ⟨(IntKind.u64.wrap n % 20).toNat, by omega⟩
  have m20 : m < 20 := by omega
  obtain ⟨p, e3, h3⟩ : ∃ x e, doL 5 a m = (x, e) := ⟨_, _, rfl⟩
  obtain ⟨sv, se, h4⟩ : ∃ x e, sumL 0 (List.replicate m a) = (x, e) := ⟨_, _, rfl⟩
  refine back_walk a b n _ s1 e1 s2 e2 p e3 sv se m w rfl u0 hm m20 (hide h1) ((back_add h1).imp (fun h => ⟨h.1, hide h.2⟩) id) (hide h2) ((back_sub h2).imp (fun h => ⟨h.1, hide h.2⟩) id) (hide h3) (hide h4) ?_
  by_cases hz : m = 0
  · subst hz
    simp [sumL] at h4
    obtain ⟨rfl, rfl⟩ := h4
    by_cases a0 : -4611686018427387904 ≤ a
    · by_cases a1 : a ≤ 4611686018427387904
      · rw [doL_mul (inB_t a0 a1) (by decide), res_t (by simp) (by simp)] at h3
        simp at h3
        obtain ⟨rfl, rfl⟩ := h3
        exact Or.inl ⟨rfl, rfl, rfl, rfl, Or.inl ⟨a0, a1, rfl⟩⟩
      · rw [doL_out (by decide) (Or.inl (inB_f (by omega)))] at h3
        cases h3
        exact Or.inl ⟨rfl, rfl, rfl, rfl, Or.inr (Or.inl ⟨a0, by omega, rfl⟩)⟩
    · rw [doL_out (by decide) (Or.inl (inB_f (by omega)))] at h3
      cases h3
      exact Or.inl ⟨rfl, rfl, rfl, rfl, Or.inr (Or.inr ⟨by omega, rfl⟩)⟩
  · have ht := times a m (by omega) m20
    rw [h3, h4] at ht
    cases ht
    exact Or.inr ⟨by omega, rfl, rfl⟩
end Go.Proofs.Ytmcodmpanakmbaa

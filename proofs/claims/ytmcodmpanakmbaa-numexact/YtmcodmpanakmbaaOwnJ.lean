/- The walk of constablelaw02.NumExact: it answers true, whatever the numbers and the list. -/
import Derived.Test.YtmcodmpanakmbaaOwnE
namespace Go.Proofs.Ytmcodmpanakmbaa
open Go.RowKit
open N

theorem res_zero {r x y : Int} (h : res r = (x, y)) (hy : y ≠ 0) : x = 0 := by
  unfold res at h
  split at h <;> cases h
  · exact absurd rfl hy
  · rfl
theorem doL_zero {k a b x y : Int} (h : doL k a b = (x, y)) (hy : y ≠ 0) : x = 0 := by
  unfold doL at h
  split at h
  · split at h
    · exact res_zero h hy
    · cases h; rfl
  · cases h; rfl

set_option maxHeartbeats 400000 in
theorem exact_long (k a b : Int) (ao : Option Addr) (len cap : Nat) (w : World) (h : 100 < len) :
    Calls Try.prog 3 #[.int .i64 k, .int .i64 a, .int .i64 b, .slice ao len cap] w fun r w' => r = .returned (.bool true) ∧ Below w.heap.size w w' := by
  have hd : decide (100 < (len : Int)) = true := decide_eq_true (by omega)
  go_enter Try.func3, Try.ntmps3
  go_wp2
  go_ret
  exact ⟨rfl, Below.refl _ _⟩

set_option maxHeartbeats 1000000 in
theorem exact_empty (k a b x e : Int) (ao : Option Addr) (cap : Nat) (w : World) (H : Hid (doL k a b = (x, e))) :
    Calls Try.prog 3 #[.int .i64 k, .int .i64 a, .int .i64 b, .slice ao 0 cap] w fun r w' => r = .returned (.bool true) ∧ Below w.heap.size w w' := by
  go_enter Try.func3, Try.ntmps3
  go_wp2_with fail
  refine (do_any k a b x e _ H).mono ?_; rintro r w' ⟨rfl, rfl⟩
  go_wp2_with fail
  refine (ref_any k a b x e _ H).mono ?_; rintro r w' ⟨rfl, rfl⟩
  go_wp2_with fail
  refine (sum_empty ao cap _).mono ?_; rintro r w' ⟨rfl, rfl⟩
  go_wp2_with fail
  go_loop [15, 16, 17] (fun s t i => s = .int .i64 0 ∧ t = .int .i64 0 ∧ i = .int .i64 0) (fun _ _ _ => 0)
  case atStart => exact ⟨rfl, rfl, rfl⟩
  case round =>
    obtain ⟨rfl, rfl, rfl⟩ := hrel
    go_wp2_with (go_at_call 10; refine (wakes_any _).mono ?_; rintro r w3 ⟨rfl, k3⟩)
    go_ret
    exact ⟨rfl, k3⟩

set_option maxHeartbeats 2000000 in
theorem exact_some (k a b x e v f : Int) (bl off len cap : Nat) (zs : List Int) (w : World) (hz : len ≤ zs.length) (hz2 : zs.length ≤ len) (hl : len ≤ 100)
    (hc : ∀ j, j < len → w.cell? ⟨bl, off + j, none⟩ = some (.int .i64 (zs.getD j 0))) (H : Hid (doL k a b = (x, e))) (HR : Hid (sumL 0 zs = (v, f))) :
    Calls Try.prog 3 #[.int .i64 k, .int .i64 a, .int .i64 b, .slice (some ⟨bl, off, none⟩) len cap] w fun r w' => r = .returned (.bool true) ∧ Below w.heap.size w w' := by
  have hd : decide (100 < (len : Int)) = false := decide_eq_false (by omega)
  go_enter Try.func3, Try.ntmps3
  go_wp2_with fail
  refine (do_any k a b x e _ H).mono ?_; rintro r w' ⟨rfl, rfl⟩
  go_wp2_with fail
  refine (ref_any k a b x e _ H).mono ?_; rintro r w' ⟨rfl, rfl⟩
  go_wp2_with fail
  refine (sum_any bl off len cap zs v f _ hz hz2 (by omega) hc HR).mono ?_; rintro r w' ⟨rfl, rfl⟩
  go_wp2_with fail
  go_loop [15, 16, 17] (fun s t i => ∃ (k : Nat) (sv tv : Int), k ≤ len ∧ i = .int .i64 k ∧ s = .int .i64 sv ∧ t = .int .i64 tv ∧ ((tv = 0 ∧ Hid (sumL sv (zs.drop k) = (v, f))) ∨ (tv ≠ 0 ∧ sv = v ∧ tv = f))) (fun _ _ i => len - (intOf i).toNat)
  case atStart => exact ⟨0, 0, 0, Nat.zero_le _, rfl, rfl, rfl, Or.inl ⟨rfl, HR⟩⟩
  case round =>
    obtain ⟨n, sv, tv, hn, rfl, rfl, rfl, hcs⟩ := hrel
    rcases hcs with ⟨rfl, HS⟩ | ⟨htv, rfl, rfl⟩
    · by_cases hlt : n < len
      · have hcell := hc n hlt
        obtain ⟨x', y', hd'⟩ : ∃ x y, doL 3 sv (zs.getD n 0) = (x, y) := ⟨_, _, rfl⟩
        have hg := sum_go (v := v) (e := f) (r := zs.drop (n + 1)) hd' (by rw [← drop_get (by omega)]; exact unhide HS)
        have hg' : Hid ((y' = 0 ∧ Hid (sumL x' (zs.drop (n + 1)) = (v, f))) ∨ (y' ≠ 0 ∧ x' = v ∧ y' = f)) := by
          rcases hg with ⟨h1, h2⟩ | ⟨h1, h2⟩
          · exact hide (Or.inl ⟨h1, hide h2⟩)
          · have hx : x' = 0 := doL_zero hd' h1
            cases h2
            exact hide (Or.inr ⟨h1, hx, rfl⟩)
        have HD := hide hd'
        clear hd' hc HS hg
        generalize zs.getD n 0 = z at hcell HD
        go_wp2_with fail
        refine (ref_any 3 sv z x' y' _ HD).mono ?_; rintro r w' ⟨rfl, rfl⟩
        go_wp2
        go_round
        case rel => exact ⟨n + 1, x', y', by omega, by go_num, rfl, rfl, unhide hg'⟩
        case measure => simp [intOf]; omega
      · have HG : Hid ((sv, 0) = (v, f)) := by
          have h := unhide HS
          rw [List.drop_eq_nil_of_le (by omega)] at h
          exact hide h
        clear HS hc
        have h := unhide HG
        cases h
        clear HG
        go_wp2_with (go_at_call 10; refine (wakes_any _).mono ?_; rintro r w3 ⟨rfl, k3⟩)
        go_ret
        exact ⟨rfl, k3⟩
    · have ht : (tv == 0) = false := by simp [htv]
      clear htv hc
      by_cases hlt : n < len
      all_goals
        go_wp2_with (go_at_call 10; refine (wakes_any _).mono ?_; rintro r w3 ⟨rfl, k3⟩)
        go_ret
        exact ⟨rfl, k3⟩
end Go.Proofs.Ytmcodmpanakmbaa

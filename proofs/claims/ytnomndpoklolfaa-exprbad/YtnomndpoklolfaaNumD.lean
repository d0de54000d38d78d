/- What num.Sum returns, over any slice of numbers. -/
import Derived.Test.YtnomndpoklolfaaNumC
namespace Go.Proofs.Ytnomndpoklolfaa.N
open Go.RowKit

theorem sum_go {s n : Int} {r : List Int} {x y v e : Int} (h : doL 3 s n = (x, y)) (hs : sumL s (n :: r) = (v, e)) : (y = 0 ∧ sumL x r = (v, e)) ∨ (y ≠ 0 ∧ (0, y) = (v, e)) := by
  unfold sumL at hs
  rw [h] at hs
  by_cases hy : y = 0
  · exact Or.inl ⟨hy, by simpa [hy] using hs⟩
  · exact Or.inr ⟨hy, by simpa [hy] using hs⟩
theorem drop_get {zs : List Int} {k : Nat} (h : k < zs.length) : zs.drop k = zs.getD k 0 :: zs.drop (k + 1) := by
  rw [List.drop_eq_getElem_cons h]; simp [List.getD, List.getElem?_eq_getElem h]

set_option maxHeartbeats 800000 in
theorem sum_any (b off len cap : Nat) (zs : List Int) (v e : Int) (w : World) (hz : len ≤ zs.length) (hz2 : zs.length ≤ len) (hbig : len ≤ 9223372036854775807)
    (hc : ∀ j, j < len → w.cell? ⟨b, off + j, none⟩ = some (.int .i64 (zs.getD j 0))) (hr : Hid (sumL 0 zs = (v, e))) :
    Calls Try.prog 28 #[.slice (some ⟨b, off, none⟩) len cap] w fun r w' => r = .returned (.tuple #[.int .i64 v, .int .i64 e]) ∧ w' = w := by
  go_enter Try.func28, Try.ntmps28
  go_wp2
  go_loop [4, 11] (fun t i => ∃ (k : Nat) (s : Int), k ≤ len ∧ i = .int .i64 k ∧ t = .int .i64 s ∧ Hid (sumL s (zs.drop k) = (v, e))) (fun _ i => len - (intOf i).toNat)
  case atStart => exact ⟨0, 0, Nat.zero_le _, rfl, rfl, hr⟩
  case round =>
    obtain ⟨k, s, hk, rfl, rfl, HS⟩ := hrel
    by_cases hlt : k < len
    · have hcell := hc k hlt
      obtain ⟨x, y, hd⟩ : ∃ x y, doL 3 s (zs.getD k 0) = (x, y) := ⟨_, _, rfl⟩
      have hg := sum_go (v := v) (e := e) (r := zs.drop (k + 1)) hd (by rw [← drop_get (by omega)]; exact unhide HS)
      have HD := hide hd
      clear hd hc HS
      generalize zs.getD k 0 = n at hcell HD
      rcases hg with ⟨rfl, hg⟩ | ⟨hy, hg⟩
      · have HG := hide hg
        clear hg
        go_wp2_with (go_at_call 26; refine (do_any 3 s n _ _ _ HD).mono ?_; rintro r w' ⟨rfl, rfl⟩)
        go_round
        case rel => exact ⟨k + 1, x, by omega, by go_num, rfl, HG⟩
        case measure => simp [intOf]; omega
      · have HG := hide hg
        have hy' : (y != 0) = true := by simp [hy]
        clear hg hy
        go_wp2_with (go_at_call 26; refine (do_any 3 s n _ _ _ HD).mono ?_; rintro r w' ⟨rfl, rfl⟩)
        go_ret2
        exact ⟨ret_two (unhide HG), rfl⟩
    · have HG : Hid ((s, 0) = (v, e)) := by
        have h := unhide HS
        rw [List.drop_eq_nil_of_le (by omega)] at h
        exact hide h
      clear HS
      go_wp2
      go_ret2
      exact ⟨ret_two (unhide HG), rfl⟩

set_option maxHeartbeats 400000 in
theorem sum_empty (a : Option Addr) (cap : Nat) (w : World) : Calls Try.prog 28 #[.slice a 0 cap] w fun r w' => r = .returned (.tuple #[.int .i64 0, .int .i64 0]) ∧ w' = w := by
  go_enter Try.func28, Try.ntmps28
  go_wp2
  go_loop [4, 11] (fun t i => i = .int .i64 0 ∧ t = .int .i64 0) (fun _ _ => 0)
  case atStart => exact ⟨rfl, rfl⟩
  case round =>
    obtain ⟨rfl, rfl⟩ := hrel
    go_wp2
    go_ret2
    exact ⟨rfl, rfl⟩
end Go.Proofs.Ytnomndpoklolfaa.N

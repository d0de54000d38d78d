/- What cmp.Or and val.Compare answer. -/
import Derived.Test.YtakhcifhfbiopaaOwnD
import Derived.Deep.RegionHeld3
import Derived.Deep.QuietTactic
import Derived.BigQuiet
namespace Go.Proofs.Ytakhcifhfbiopaa
open Go.RowKit
open V

def or3 (x y z : Int) : Int := if x ≠ 0 then x else if y ≠ 0 then y else z
theorem or3_x {x y z : Int} (h : x ≠ 0) : or3 x y z = x := if_pos h
theorem or3_y {y z : Int} (h : y ≠ 0) : or3 0 y z = y := by simp [or3, h]
theorem or3_z {z : Int} : or3 0 0 z = z := by simp [or3]

set_option maxHeartbeats 1000000 in
theorem or_any (x y z : Int) (b : Nat) (w : World) (h0 : w.cell? ⟨b, 0, none⟩ = some (.int .i64 x)) (h1 : w.cell? ⟨b, 1, none⟩ = some (.int .i64 y)) (h2 : w.cell? ⟨b, 2, none⟩ = some (.int .i64 z)) :
    Calls Try.prog 44 #[.slice (some ⟨b, 0, none⟩) 3 3] w fun e w' => e = .returned (.int .i64 (or3 x y z)) ∧ w' = w := by
  go_enter Try.func44, Try.ntmps44
  go_wp2
  go_loop [5, 8] (fun _ i => ∃ k : Nat, k ≤ 3 ∧ i = .int .i64 k ∧ Hid ((1 ≤ k → x = 0) ∧ (2 ≤ k → y = 0) ∧ (3 ≤ k → z = 0))) (fun _ i => 3 - (intOf i).toNat)
  case atStart => exact ⟨0, by omega, rfl, by refine ⟨?_, ?_, ?_⟩ <;> (intro h; omega)⟩
  case round =>
    obtain ⟨k, hk, rfl, HK⟩ := hrel
    have hkc : k = 0 ∨ k = 1 ∨ k = 2 ∨ k = 3 := by omega
    rcases hkc with rfl | rfl | rfl | rfl
    · by_cases hx : x = 0
      · have c0 : (x != 0) = false := by simp [hx]
        have HX := hide hx
        clear hx
        go_wp2
        go_round
        case rel => exact ⟨1, by omega, by go_num, by refine ⟨?_, ?_, ?_⟩; (intro _; exact unhide HX); (intro h; omega); (intro h; omega)⟩
        case measure => simp [intOf]
      · have c0 : (x != 0) = true := by simp [hx]
        go_wp2
        go_ret
        exact ⟨ret_int (by rw [or3_x hx]), rfl⟩
    · have hx : x = 0 := (unhide HK).1 (by omega)
      have HX := hide hx
      clear hx
      by_cases hy : y = 0
      · have c0 : (y != 0) = false := by simp [hy]
        have HY := hide hy
        clear hy
        go_wp2
        go_round
        case rel => exact ⟨2, by omega, by go_num, by refine ⟨?_, ?_, ?_⟩; (intro _; exact unhide HX); (intro _; exact unhide HY); (intro h; omega)⟩
        case measure => simp [intOf]
      · have c0 : (y != 0) = true := by simp [hy]
        go_wp2
        go_ret
        exact ⟨ret_int (by rw [unhide HX, or3_y hy]), rfl⟩
    · have hx : x = 0 := (unhide HK).1 (by omega)
      have hy : y = 0 := (unhide HK).2.1 (by omega)
      have HX := hide hx
      have HY := hide hy
      clear hx hy
      by_cases hz : z = 0
      · have c0 : (z != 0) = false := by simp [hz]
        have HZ := hide hz
        clear hz
        go_wp2
        go_round
        case rel => exact ⟨3, by omega, by go_num, by refine ⟨?_, ?_, ?_⟩; (intro _; exact unhide HX); (intro _; exact unhide HY); (intro _; exact unhide HZ)⟩
        case measure => simp [intOf]
      · have c0 : (z != 0) = true := by simp [hz]
        go_wp2
        go_ret
        exact ⟨ret_int (by rw [unhide HX, unhide HY, or3_z]), rfl⟩
    · go_wp2
      go_ret
      exact ⟨ret_int (by rw [(unhide HK).1 (by omega), (unhide HK).2.1 (by omega), (unhide HK).2.2 (by omega), or3_z]), rfl⟩

theorem or_at (x y z : Int) (b : Nat) (W : World) (hb : W.heap.size = b) :
    Calls Try.prog 44 #[.slice (some ⟨b, 0, none⟩) 3 3] (W.alloc (.cells #[.int .i64 x, .int .i64 y, .int .i64 z] 3)).drew fun e w' => e = .returned (.int .i64 (or3 x y z)) ∧ w' = (W.alloc (.cells #[.int .i64 x, .int .i64 y, .int .i64 z] 3)).drew := by
  subst hb
  have hk : (W.alloc (.cells #[.int .i64 x, .int .i64 y, .int .i64 z] 3)).drew.heap[W.heap.size]? = some (.cells #[.int .i64 x, .int .i64 y, .int .i64 z] 3) := heap_alloc_new W _
  exact or_any x y z _ _ (by rw [Lib.cell_of_heap hk]; rfl) (by rw [Lib.cell_of_heap hk]; rfl) (by rw [Lib.cell_of_heap hk]; rfl)

set_option maxHeartbeats 2000000 in
theorem compare_any (k n k' n' : Int) (s s' : ByteArray) (w : World) :
    Calls Try.prog 29 #[.agg #[.int .i64 k, .int .i64 n, .string s], .agg #[.int .i64 k', .int .i64 n', .string s']] w fun e w' => e = .returned (.int .i64 (or3 (Lib.compareInt k k') (Lib.compareInt n n') (Lib.compareBytes s.data.toList s'.data.toList))) ∧ Below w.heap.size w w' := by
  go_enter Try.func29, Try.ntmps29
  go_wp2
  go_region_held3 (fun w' => w'.cell? ⟨w.heap.size, 0, none⟩ = some (.int .i64 k) ∧ w'.cell? ⟨w.heap.size, 1, none⟩ = some (.int .i64 n) ∧ w'.cell? ⟨w.heap.size, 2, none⟩ = some (.string s) ∧ w'.cell? ⟨w.heap.size + 1, 0, none⟩ = some (.int .i64 k') ∧ w'.cell? ⟨w.heap.size + 1, 1, none⟩ = some (.int .i64 n') ∧ w'.cell? ⟨w.heap.size + 1, 2, none⟩ = some (.string s')) (go_keep) (first | (go_at_call 45; refine (Try.cmp_Compare_int _ _ _).mono ?_; rintro e w' ⟨rfl, rfl⟩) | (go_at_call 46; refine (Try.strings_Compare _ _ _).mono ?_; rintro e w' ⟨rfl, rfl⟩) | (go_at_call 44; refine (or_at _ _ _ _ _ (by simp)).mono ?_; rintro e w' ⟨rfl, rfl⟩))
  go_wp2
  go_ret
  exact ⟨rfl, ((((Below.refl _ _).alloc (Nat.le_refl _) _).alloc (by simp) _).alloc (by simp; omega) _).drew⟩
end Go.Proofs.Ytakhcifhfbiopaa

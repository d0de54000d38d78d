/- What subst.Check answers. -/
import Derived.Test.YtakhcifhfbiopaaSubC
namespace Go.Proofs.Ytakhcifhfbiopaa.Sb
open Go.RowKit
open V

/-- A contract that adds to memory alone, at every world of a region that draws its order. -/
theorem cls {F : FuncId} {args : Array Value} {v : Value} {wr : World} (c : ∀ W, Below wr.heap.size wr W → Calls Try.prog F args W fun e w' => e = .returned v ∧ Below W.heap.size W w') :
    ∀ d os, Calls Try.prog F args (Sort.grow (redrawn wr d) os) fun e w'' => e = .returned v ∧ ∃ p : Regrown, w'' = Sort.grow (redrawn wr p.d) p.os :=
  fun d os => Calls.regrown_of (c _ (below_regrown wr d os))

set_option maxHeartbeats 2000000 in
theorem scheck_any (a : Option Addr) (len cap : Nat) (xs : List Bb) (w : World) (hrow : RowB w a xs) (hl : len ≤ xs.length) (hl' : xs.length ≤ len) (hL : ∀ x ∈ xs, Lt x) :
    Calls Try.prog 39 #[.slice a len cap] w fun e w' => e = .returned (.int .i64 (chk (listB xs))) ∧ Below w.heap.size w w' := by
  by_cases h100 : 100 < len
  · have HF : Hid (chk (listB xs) = 1) := hide (chk_f (list_long (by omega)))
    have d100 : decide (100 < (len : Int)) = true := by simp; omega
    go_enter Try.func39, Try.ntmps39
    go_wp2_with fail
    go_ret
    exact ⟨ret_int (unhide HF).symm, Below.refl _ _⟩
  · have d100 : decide (100 < (len : Int)) = false := by simp; omega
    go_enter Try.func39, Try.ntmps39
    go_wp2_with fail
    go_loopw [3, 4, 10] (fun _ _ i wr => ∃ k : Nat, k ≤ len ∧ i = .int .i64 k ∧ Hid (Seen xs k) ∧ Below w.heap.size w wr) (fun _ _ i _ => len - (intOf i).toNat)
    case atStart => exact ⟨0, Nat.zero_le _, rfl, hide (seen_zero _), Below.refl _ _⟩
    case round =>
      obtain ⟨k, hk, rfl, HK, hbw⟩ := hrel
      by_cases hlt : k < len
      · obtain ⟨b, o, ha, hbl, c0, c1, c2, c3⟩ := (hrow.on hbw).up (show k < xs.length by omega)
        subst ha
        have lx := hL xs[k] (List.getElem_mem (by omega))
        have hbx : Below w.heap.size w (wr.alloc (bxB xs[k])) := hbw.alloc hbw.size _
        have hrx := hrow.on hbx
        obtain ⟨q0, q1, q2, q3⟩ := quad_of (heap_alloc_new wr (bxB xs[k]))
        cases hr : rightBd xs[k] with
        | false =>
          have HF : Hid (chk (listB xs) = 1) := hide (chk_f (list_bad (show k < xs.length by omega) hr))
          have HR := hide hr
          clear hr hrx
          generalize xs[k] = x at c0 c1 c2 c3 lx hbx q0 q1 q2 q3 HR
          go_wp2_with fail
          clear c0 c1 c2 c3
          generalize wr.alloc (.cells #[.string x.1, .int .i64 x.2.1, .int .i64 x.2.2.1, .string x.2.2.2] 54) = W at hbx q0 q1 q2 q3
          have F1 := cls (wr := W) (fun V _ => isRight_q x false V lx HR)
          have m0 := cell_regrown q0
          have m1 := cell_regrown q1
          have m2 := cell_regrown q2
          have m3 := cell_regrown q3
          refine wp_region_quiet_below (by kernel_rfl) (by kernel_rfl) ?_
          repeat (go_big_quiet_step (first | with_reducible exact F1 _ _))
          refine wpQuiet_nil ?_
          intro _ hw'
          obtain ⟨⟨dq, osq⟩, hw''⟩ := hw'
          subst hw''
          have hbw' := bt hbx (below_regrown W dq osq)
          clear F1 m0 m1 m2 m3
          generalize Sort.grow (redrawn W dq) osq = w9 at hbw'
          go_wp2_with fail
          go_ret
          exact ⟨ret_int (unhide HF).symm, hbw'⟩
        | true =>
          by_cases hk0 : k = 0
          · have HN : Hid (Seen xs (k + 1)) := hide (seen_next (unhide HK) (show k < xs.length by omega) hr (fun j e => by omega))
            have hkp : decide (0 < k) = false := decide_eq_false (by omega)
            have HR := hide hr
            clear hr hrx hk0
            generalize xs[k] = x at c0 c1 c2 c3 lx hbx q0 q1 q2 q3 HR
            go_wp2_with fail
            clear c0 c1 c2 c3
            generalize wr.alloc (.cells #[.string x.1, .int .i64 x.2.1, .int .i64 x.2.2.1, .string x.2.2.2] 54) = W at hbx q0 q1 q2 q3
            have F1 := cls (wr := W) (fun V _ => isRight_q x true V lx HR)
            have m0 := cell_regrown q0
            have m1 := cell_regrown q1
            have m2 := cell_regrown q2
            have m3 := cell_regrown q3
            refine wp_region_quiet_below (by kernel_rfl) (by kernel_rfl) ?_
            repeat (go_big_quiet_step (first | with_reducible exact F1 _ _))
            refine wpQuiet_nil ?_
            intro _ hw'
            obtain ⟨⟨dq, osq⟩, hw''⟩ := hw'
            subst hw''
            have hbw' := bt hbx (below_regrown W dq osq)
            clear F1 m0 m1 m2 m3
            generalize Sort.grow (redrawn W dq) osq = w9 at hbw'
            go_wp2_with fail
            go_roundw
            case rel => exact ⟨k + 1, by omega, by go_num, HN, hbw'⟩
            case measure => simp [intOf]; omega
          · obtain ⟨j, hjk⟩ : ∃ j, k = j + 1 := ⟨k - 1, by omega⟩
            have hkp : decide (0 < k) = true := decide_eq_true (by omega)
            have e0 : (k : Int) - 1 = (j : Int) := by omega
            have e4 : IntKind.i64.wrap (j : Int) = (j : Int) := by simp [IntKind.wrap, IntKind.bits, IntKind.signed]; omega
            have e2 : (j : Int) < (len : Int) := by omega
            have e3 : (0 : Int) ≤ (j : Int) := by omega
            obtain ⟨b', o', ha', hbl', p0, p1, p2, p3⟩ := hrx.up (show j < xs.length by omega)
            simp only [Option.some.injEq, Addr.mk.injEq, and_true] at ha'
            obtain ⟨rfl, rfl⟩ := ha'
            by_cases hz : byV xs[j] xs[k] < 0
            · have HN : Hid (Seen xs (k + 1)) := hide (seen_next (unhide HK) (show k < xs.length by omega) hr (fun i e => by
                have : i = j := by omega
                subst this; exact hz))
              have HR := hide hr
              obtain ⟨n, hn⟩ : ∃ n, byV xs[j] xs[k] = n := ⟨_, rfl⟩
              have HB := hide hn
              rw [hn] at hz
              have hz' : decide (0 ≤ n) = false := decide_eq_false (by omega)
              clear hr hrx hn hz
              generalize xs[k] = x at c0 c1 c2 c3 lx hbx q0 q1 q2 q3 HR HB p0 p1 p2 p3
              generalize xs[j] = y at p0 p1 p2 p3 HB
              clear hjk
              go_wp2_with fail
              clear c0 c1 c2 c3
              generalize wr.alloc (.cells #[.string x.1, .int .i64 x.2.1, .int .i64 x.2.2.1, .string x.2.2.2] 54) = W at hbx q0 q1 q2 q3 p0 p1 p2 p3 hbl'
              have F1 := cls (wr := W) (fun V _ => isRight_q x true V lx HR)
              have F2 := cls (wr := W) (fun V _ => byVar_x y x n V HB)
              have m0 := cell_regrown q0
              have m1 := cell_regrown q1
              have m2 := cell_regrown q2
              have m3 := cell_regrown q3
              have n0 := cell_regrown p0
              have n1 := cell_regrown p1
              have n2 := cell_regrown p2
              have n3 := cell_regrown p3
              refine wp_region_quiet_below (by kernel_rfl) (by kernel_rfl) ?_
              repeat (go_big_quiet_step (first | with_reducible exact F1 _ _ | with_reducible exact F2 _ _))
              refine wpQuiet_nil ?_
              intro _ hw'
              obtain ⟨⟨dq, osq⟩, hw''⟩ := hw'
              subst hw''
              have hbw' := bt hbx (below_regrown W dq osq)
              clear F1 F2 m0 m1 m2 m3
              generalize Sort.grow (redrawn W dq) osq = w9 at hbw'
              clear n0 n1 n2 n3 e0 e4 e2 e3
              go_wp2_with fail
              go_roundw
              case rel => exact ⟨k + 1, by omega, by go_num, HN, hbw'⟩
              case measure => simp [intOf]; omega
            · have HF : Hid (chk (listB xs) = 1) := by
                subst hjk
                exact hide (chk_f (list_fall (l := xs) (j := j) (by omega) hz))
              have HR := hide hr
              obtain ⟨n, hn⟩ : ∃ n, byV xs[j] xs[k] = n := ⟨_, rfl⟩
              have HB := hide hn
              rw [hn] at hz
              have hz' : decide (0 ≤ n) = true := decide_eq_true (by omega)
              clear hr hrx hn hz
              generalize xs[k] = x at c0 c1 c2 c3 lx hbx q0 q1 q2 q3 HR HB p0 p1 p2 p3
              generalize xs[j] = y at p0 p1 p2 p3 HB
              clear hjk
              go_wp2_with fail
              clear c0 c1 c2 c3
              generalize wr.alloc (.cells #[.string x.1, .int .i64 x.2.1, .int .i64 x.2.2.1, .string x.2.2.2] 54) = W at hbx q0 q1 q2 q3 p0 p1 p2 p3 hbl'
              have F1 := cls (wr := W) (fun V _ => isRight_q x true V lx HR)
              have F2 := cls (wr := W) (fun V _ => byVar_x y x n V HB)
              have m0 := cell_regrown q0
              have m1 := cell_regrown q1
              have m2 := cell_regrown q2
              have m3 := cell_regrown q3
              have n0 := cell_regrown p0
              have n1 := cell_regrown p1
              have n2 := cell_regrown p2
              have n3 := cell_regrown p3
              refine wp_region_quiet_below (by kernel_rfl) (by kernel_rfl) ?_
              repeat (go_big_quiet_step (first | with_reducible exact F1 _ _ | with_reducible exact F2 _ _))
              refine wpQuiet_nil ?_
              intro _ hw'
              obtain ⟨⟨dq, osq⟩, hw''⟩ := hw'
              subst hw''
              have hbw' := bt hbx (below_regrown W dq osq)
              clear F1 F2 m0 m1 m2 m3
              generalize Sort.grow (redrawn W dq) osq = w9 at hbw'
              clear n0 n1 n2 n3 e0 e4 e2 e3
              go_wp2_with fail
              go_ret
              exact ⟨ret_int (unhide HF).symm, hbw'⟩
      · have HF : Hid (chk (listB xs) = 0) := hide (chk_t (list_t (by omega) (by have := unhide HK; rwa [show k = xs.length by omega] at this)))
        go_wp2_with fail
        go_ret
        exact ⟨ret_int (unhide HF).symm, hbw⟩
end Go.Proofs.Ytakhcifhfbiopaa.Sb

/- What the document's Binds and Get answer; the law's Heavy; constablekeep.TwinBinds. -/
import Derived.Test.YtakhcifhfbiopaaSubD
namespace Go.Proofs.Ytakhcifhfbiopaa.Sb
open Go.RowKit
open V

theorem refVar_q (s : ByteArray) (q : Bool) (w : World) (hs : s.size ≤ 200) (H : Hid (varB s.data.toList = q)) :
    Calls Try.prog 36 #[.string s, .bool true] w fun e w' => e = .returned (.bool q) ∧ Below w.heap.size w w' := by
  refine (refWordU_any s w (by unfold maxLen; omega)).mono ?_
  rintro e w' ⟨rfl, hw⟩
  subst hw
  exact ⟨ret_bool' (unhide H), Below.refl _ _⟩
theorem refVal_q (v : Vv) (q : Bool) (w : World) (hs : v.2.2.size ≤ 200) (H : Hid (rightVv v = q)) :
    Calls Try.prog 19 #[.agg #[.int .i64 v.1, .int .i64 v.2.1, .string v.2.2]] w fun e w' => e = .returned (.bool q) ∧ Below w.heap.size w w' := by
  have := refValue_any v.1 v.2.1 v.2.2 w (by omega)
  rw [show rightB v.1 v.2.1 v.2.2.data.toList = q from unhide H] at this
  exact this
theorem refStr_x (x y : Bb) (n : Int) (w : World) (hx : x.1.size ≤ 200) (hy : y.1.size ≤ 200) (H : Hid (byV x y = n)) :
    Calls Try.prog 37 #[.string x.1, .string y.1] w fun e w' => e = .returned (.int .i64 n) ∧ Below w.heap.size w w' := by
  have := refStrings_any x.1 y.1 w (by omega) (by omega)
  rw [show Lib.compareBytes x.1.data.toList y.1.data.toList = n from unhide H] at this
  exact this

set_option maxHeartbeats 2000000 in
theorem refBinds_any (a : Option Addr) (len cap : Nat) (xs : List Bb) (w : World) (hrow : RowB w a xs) (hl : len ≤ xs.length) (hl' : xs.length ≤ len) (hL : ∀ x ∈ xs, Lt x) :
    Calls Try.prog 16 #[.slice a len cap] w fun e w' => e = .returned (.bool (listB xs)) ∧ Below w.heap.size w w' := by
  by_cases h100 : 100 < len
  · have HF : Hid (listB xs = false) := hide (list_long (by omega))
    have d100 : decide (100 < (len : Int)) = true := by simp; omega
    go_enter Try.func16, Try.ntmps16
    go_wp2_with fail
    go_ret
    exact ⟨ret_bool' (unhide HF).symm, Below.refl _ _⟩
  · have d100 : decide (100 < (len : Int)) = false := by simp; omega
    go_enter Try.func16, Try.ntmps16
    go_wp2_with fail
    go_loopw [3] (fun i wr => ∃ k : Nat, k ≤ len ∧ i = .int .i64 k ∧ Hid (Seen xs k) ∧ Below w.heap.size w wr) (fun i _ => len - (intOf i).toNat)
    case atStart => exact ⟨0, Nat.zero_le _, rfl, hide (seen_zero _), Below.refl _ _⟩
    case round =>
      obtain ⟨k, hk, rfl, HK, hbw⟩ := hrel
      by_cases hlt : k < len
      · obtain ⟨b, o, ha, hbl, c0, c1, c2, c3⟩ := (hrow.on hbw).up (show k < xs.length by omega)
        subst ha
        have lx := hL xs[k] (List.getElem_mem (by omega))
        have hrx := hrow.on hbw
        cases hv : varB xs[k].1.data.toList with
        | false =>
          have HF : Hid (listB xs = false) := hide (list_bad (show k < xs.length by omega) (by rw [rightBd, hv]; rfl))
          have HV := hide hv
          clear hv hrx
          generalize xs[k] = x at c0 c1 c2 c3 lx HV
          go_wp2_with fail
          have F1 := cls (wr := wr) (fun V _ => refVar_q x.1 false V lx.1 HV)
          have m0 := cell_regrown c0
          have m1 := cell_regrown c1
          have m2 := cell_regrown c2
          have m3 := cell_regrown c3
          clear c0 c1 c2 c3
          refine wp_region_quiet_below (by kernel_rfl) (by kernel_rfl) ?_
          repeat (go_big_quiet_step (first | with_reducible exact F1 _ _))
          refine wpQuiet_nil ?_
          intro _ hw'
          obtain ⟨⟨dq, osq⟩, hw''⟩ := hw'
          subst hw''
          have hbw' := bt hbw (below_regrown wr dq osq)
          clear F1 m0 m1 m2 m3
          generalize Sort.grow (redrawn wr dq) osq = w9 at hbw'
          go_wp2_with fail
          go_ret
          exact ⟨ret_bool' (unhide HF).symm, hbw'⟩
        | true =>
          cases hr : rightVv xs[k].2 with
          | false =>
            have HF : Hid (listB xs = false) := hide (list_bad (show k < xs.length by omega) (by rw [rightBd, hv, hr]; rfl))
            have HV := hide hv
            have HR := hide hr
            clear hv hr hrx
            generalize xs[k] = x at c0 c1 c2 c3 lx HV HR
            go_wp2_with fail
            have F1 := cls (wr := wr) (fun V _ => refVar_q x.1 true V lx.1 HV)
            have F2 := cls (wr := wr) (fun V _ => refVal_q x.2 false V lx.2 HR)
            have m0 := cell_regrown c0
            have m1 := cell_regrown c1
            have m2 := cell_regrown c2
            have m3 := cell_regrown c3
            clear c0 c1 c2 c3
            refine wp_region_quiet_below (by kernel_rfl) (by kernel_rfl) ?_
            repeat (go_big_quiet_step (first | with_reducible exact F1 _ _ | with_reducible exact F2 _ _))
            refine wpQuiet_nil ?_
            intro _ hw'
            obtain ⟨⟨dq, osq⟩, hw''⟩ := hw'
            subst hw''
            have hbw' := bt hbw (below_regrown wr dq osq)
            clear F1 F2 m0 m1 m2 m3
            generalize Sort.grow (redrawn wr dq) osq = w9 at hbw'
            go_wp2_with fail
            go_ret
            exact ⟨ret_bool' (unhide HF).symm, hbw'⟩
          | true =>
            have hrr : rightBd xs[k] = true := by rw [rightBd, hv, hr]; rfl
            have HV := hide hv
            have HR := hide hr
            clear hv hr
            by_cases hk0 : k = 0
            · have HN : Hid (Seen xs (k + 1)) := hide (seen_next (unhide HK) (show k < xs.length by omega) hrr (fun j e => by omega))
              have hkp : decide (0 < k) = false := decide_eq_false (by omega)
              clear hrr hrx hk0
              generalize xs[k] = x at c0 c1 c2 c3 lx HV HR
              go_wp2_with fail
              have F1 := cls (wr := wr) (fun V _ => refVar_q x.1 true V lx.1 HV)
              have F2 := cls (wr := wr) (fun V _ => refVal_q x.2 true V lx.2 HR)
              have m0 := cell_regrown c0
              have m1 := cell_regrown c1
              have m2 := cell_regrown c2
              have m3 := cell_regrown c3
              clear c0 c1 c2 c3
              refine wp_region_quiet_below (by kernel_rfl) (by kernel_rfl) ?_
              repeat (go_big_quiet_step (first | with_reducible exact F1 _ _ | with_reducible exact F2 _ _))
              refine wpQuiet_nil ?_
              intro _ hw'
              obtain ⟨⟨dq, osq⟩, hw''⟩ := hw'
              subst hw''
              have hbw' := bt hbw (below_regrown wr dq osq)
              clear F1 F2 m0 m1 m2 m3
              generalize Sort.grow (redrawn wr dq) osq = w9 at hbw'
              go_wp2_with fail
              go_roundw
              case rel => exact ⟨k + 1, by omega, by go_num, HN, hbw'⟩
              case measure => simp [intOf]; omega
            · obtain ⟨j, hjk⟩ : ∃ j, k = j + 1 := ⟨k - 1, by omega⟩
              have hkp : decide (0 < k) = true := decide_eq_true (by omega)
              have e0 : (k : Int) - 1 = (j : Int) := by omega
              have e4 : IntKind.i64.wrap (j : Int) = (j : Int) := by simp [IntKind.wrap, IntKind.bits, IntKind.signed]; omega
              have e2 : (j : Int) < (len : Int) := by omega
              have e3 : (0 : Int) ≤ (j : Int) := by omega
              obtain ⟨b', o', ha', hbl', p0, p1, p2, p3⟩ := hrx.up (show j < xs.length by omega)
              have ly := hL xs[j] (List.getElem_mem (by omega))
              simp only [Option.some.injEq, Addr.mk.injEq, and_true] at ha'
              obtain ⟨rfl, rfl⟩ := ha'
              obtain ⟨n, hn⟩ : ∃ n, byV xs[j] xs[k] = n := ⟨_, rfl⟩
              have HB := hide hn
              by_cases hz : n < 0
              · have HN : Hid (Seen xs (k + 1)) := hide (seen_next (unhide HK) (show k < xs.length by omega) hrr (fun i e => by
                  have : i = j := by omega
                  subst this; rw [hn]; exact hz))
                have hz' : decide (0 ≤ n) = false := decide_eq_false (by omega)
                clear hrr hrx hn hz p1 p2 p3
                generalize xs[k] = x at c0 c1 c2 c3 lx HV HR HB
                generalize xs[j] = y at p0 HB ly
                clear hjk hk0
                go_wp2_with fail
                have F1 := cls (wr := wr) (fun V _ => refVar_q x.1 true V lx.1 HV)
                have F2 := cls (wr := wr) (fun V _ => refVal_q x.2 true V lx.2 HR)
                have F3 := cls (wr := wr) (fun V _ => refStr_x y x n V ly.1 lx.1 HB)
                have m0 := cell_regrown c0
                have m1 := cell_regrown c1
                have m2 := cell_regrown c2
                have m3 := cell_regrown c3
                have n0 := cell_regrown p0
                clear c0 c1 c2 c3 p0
                refine wp_region_quiet_below (by kernel_rfl) (by kernel_rfl) ?_
                repeat (go_big_quiet_step (first | with_reducible exact F1 _ _ | with_reducible exact F2 _ _ | with_reducible exact F3 _ _))
                refine wpQuiet_nil ?_
                intro _ hw'
                obtain ⟨⟨dq, osq⟩, hw''⟩ := hw'
                subst hw''
                have hbw' := bt hbw (below_regrown wr dq osq)
                clear F1 F2 F3 m0 m1 m2 m3 n0 e0 e4 e2 e3
                generalize Sort.grow (redrawn wr dq) osq = w9 at hbw'
                go_wp2_with fail
                go_roundw
                case rel => exact ⟨k + 1, by omega, by go_num, HN, hbw'⟩
                case measure => simp [intOf]; omega
              · have HF : Hid (listB xs = false) := by
                  subst hjk
                  exact hide (list_fall (l := xs) (j := j) (by omega) (by rw [hn]; exact hz))
                have hz' : decide (0 ≤ n) = true := decide_eq_true (by omega)
                clear hrr hrx hn hz p1 p2 p3
                generalize xs[k] = x at c0 c1 c2 c3 lx HV HR HB
                generalize xs[j] = y at p0 HB ly
                clear hjk hk0
                go_wp2_with fail
                have F1 := cls (wr := wr) (fun V _ => refVar_q x.1 true V lx.1 HV)
                have F2 := cls (wr := wr) (fun V _ => refVal_q x.2 true V lx.2 HR)
                have F3 := cls (wr := wr) (fun V _ => refStr_x y x n V ly.1 lx.1 HB)
                have m0 := cell_regrown c0
                have m1 := cell_regrown c1
                have m2 := cell_regrown c2
                have m3 := cell_regrown c3
                have n0 := cell_regrown p0
                clear c0 c1 c2 c3 p0
                refine wp_region_quiet_below (by kernel_rfl) (by kernel_rfl) ?_
                repeat (go_big_quiet_step (first | with_reducible exact F1 _ _ | with_reducible exact F2 _ _ | with_reducible exact F3 _ _))
                refine wpQuiet_nil ?_
                intro _ hw'
                obtain ⟨⟨dq, osq⟩, hw''⟩ := hw'
                subst hw''
                have hbw' := bt hbw (below_regrown wr dq osq)
                clear F1 F2 F3 m0 m1 m2 m3 n0 e0 e4 e2 e3
                generalize Sort.grow (redrawn wr dq) osq = w9 at hbw'
                go_wp2_with fail
                go_ret
                exact ⟨ret_bool' (unhide HF).symm, hbw'⟩
      · have HF : Hid (listB xs = true) := hide (list_t (by omega) (by have := unhide HK; rwa [show k = xs.length by omega] at this))
        go_wp2_with fail
        go_ret
        exact ⟨ret_bool' (unhide HF).symm, hbw⟩

theorem size_f {n : Nat} (h : ¬ 200 < n) : decide (200 < (n : Int)) = false := decide_eq_false (by omega)
theorem size_t {n : Nat} (h : 200 < n) : decide (200 < (n : Int)) = true := decide_eq_true (by omega)

set_option maxHeartbeats 2000000 in
theorem heavy_any (a : Option Addr) (len cap : Nat) (xs : List Bb) (w : World) (hrow : RowB w a xs) (hl : len ≤ xs.length) (hl' : xs.length ≤ len) :
    Calls Try.prog 8 #[.slice a len cap] w fun e w' => ((e = .returned (.bool true)) ∨ (e = .returned (.bool false) ∧ len ≤ 110 ∧ ∀ x ∈ xs, Lt x)) ∧ Below w.heap.size w w' := by
  by_cases h110 : 110 < len
  · have d110 : decide (110 < (len : Int)) = true := by simp; omega
    go_enter Try.func8, Try.ntmps8
    go_wp2_with fail
    go_ret
    exact ⟨Or.inl rfl, Below.refl _ _⟩
  · have d110 : decide (110 < (len : Int)) = false := by simp; omega
    go_enter Try.func8, Try.ntmps8
    go_wp2_with fail
    go_loopw [3] (fun i wr => ∃ k : Nat, k ≤ len ∧ i = .int .i64 k ∧ Hid (∀ j (_ : j < xs.length), j < k → Lt xs[j]) ∧ Below w.heap.size w wr) (fun i _ => len - (intOf i).toNat)
    case atStart => exact ⟨0, Nat.zero_le _, rfl, hide (fun j _ h => by omega), Below.refl _ _⟩
    case round =>
      obtain ⟨k, hk, rfl, HK, hbw⟩ := hrel
      by_cases hlt : k < len
      · obtain ⟨b, o, ha, hbl, c0, c1, c2, c3⟩ := (hrow.on hbw).up (show k < xs.length by omega)
        subst ha
        by_cases h1 : 200 < xs[k].1.size
        · have d1 := size_t h1
          clear h1
          generalize xs[k] = x at c0 c1 c2 c3 d1
          go_wp2_with fail
          go_ret
          exact ⟨Or.inl rfl, hbw⟩
        · have d1 := size_f h1
          by_cases h2 : 200 < xs[k].2.2.2.size
          · have d2 := size_t h2
            clear h1 h2
            generalize xs[k] = x at c0 c1 c2 c3 d1 d2
            go_wp2_with fail
            go_ret
            exact ⟨Or.inl rfl, hbw⟩
          · have d2 := size_f h2
            have HN : Hid (∀ j (_ : j < xs.length), j < k + 1 → Lt xs[j]) := by
              refine hide (fun j hj hjk => ?_)
              by_cases e : j < k
              · exact unhide HK j hj e
              · have : j = k := by omega
                subst this
                exact ⟨by omega, by omega⟩
            clear h1 h2
            generalize xs[k] = x at c0 c1 c2 c3 d1 d2
            go_wp2_with fail
            go_roundw
            case rel => exact ⟨k + 1, by omega, by go_num, HN, hbw⟩
            case measure => simp [intOf]; omega
      · have HN : Hid (∀ x ∈ xs, Lt x) := by
          refine hide (fun x hx => ?_)
          obtain ⟨j, hj, rfl⟩ := List.getElem_of_mem hx
          exact unhide HK j hj (by omega)
        go_wp2_with fail
        go_ret
        exact ⟨Or.inr ⟨rfl, by omega, unhide HN⟩, hbw⟩
end Go.Proofs.Ytakhcifhfbiopaa.Sb

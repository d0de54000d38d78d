/- What the document's Expr and Part answer. -/
import Derived.Test.YtakhcifhfbiopaaExpH
namespace Go.Proofs.Ytakhcifhfbiopaa.Sb
open Go.RowKit
open V
open Ex (RowO LiesO flatO)

theorem expr_none : exprB [] = false := rfl
theorem push_kind {o : Oo} (h : rightO o = true) : decide ((3 : Int) ≤ o.1) = !pushO o := by
  rcases right_kind h with h | ⟨h, h'⟩
  · rw [h]
    simp only [pushO, decide_eq_true_eq] at h
    rcases h with h | h <;> simp [h]
  · rw [h]
    simp only [opO, decide_eq_true_eq] at h'
    rcases h' with h | h | h <;> simp [h]

theorem refIn_q (n lo hi : Int) (q : Bool) (w : World) (H : Hid (decide (lo ≤ n ∧ n ≤ hi) = q)) :
    Calls Try.prog 30 #[.int .i64 n, .int .i64 lo, .int .i64 hi] w fun e w' => e = .returned (.bool q) ∧ w' = w := by
  have := refIn_any n lo hi w
  rw [show inB n lo hi = q from unhide H] at this
  exact this
theorem r1 (n : ByteArray) (v : Vv) : rightO (1, n, v) = (varB n.data.toList && decide (v = zeroV)) := by simp [rightO]
theorem r2 (n : ByteArray) (v : Vv) : rightO (2, n, v) = (decide (n.size = 0) && rightVv v) := by simp [rightO]
theorem r3 {k : Int} (hk : k = 3 ∨ k = 4 ∨ k = 5) (n : ByteArray) (v : Vv) : rightO (k, n, v) = (decide (n.size = 0) && decide (v = zeroV)) := by
  have h1 : k ≠ 1 := by omega
  have h2 : k ≠ 2 := by omega
  simp [rightO, h1, h2, opO, hk]
theorem r0 {k : Int} (h1 : k ≠ 1) (h2 : k ≠ 2) (hk : ¬ (k = 3 ∨ k = 4 ∨ k = 5)) (n : ByteArray) (v : Vv) : rightO (k, n, v) = false := by
  simp [rightO, h1, h2, opO, hk]
theorem p1 (n : ByteArray) (v : Vv) : pushO (1, n, v) = true := rfl
theorem p2 (n : ByteArray) (v : Vv) : pushO (2, n, v) = true := rfl
theorem p3 {k : Int} (hk : k = 3 ∨ k = 4 ∨ k = 5) (n : ByteArray) (v : Vv) : pushO (k, n, v) = false := decide_eq_false (by intro h; simp only at h; omega)
theorem pos_t {n : ByteArray} (h : n.size ≠ 0) : decide (0 < n.size) = true := decide_eq_true (by omega)
theorem pos_f {n : ByteArray} (h : n.size = 0) : decide (0 < n.size) = false := decide_eq_false (by omega)

set_option maxHeartbeats 4000000 in
theorem refExpr_any (a : Option Addr) (len cap : Nat) (xs : List Oo) (w : World) (hrow : RowO w a xs) (hl : len ≤ xs.length) (hl' : xs.length ≤ len) (hL : ∀ x ∈ xs, LtO x) :
    Calls Try.prog 21 #[.slice a len cap] w fun e w' => e = .returned (.bool (exprB xs)) ∧ Below w.heap.size w w' := by
  by_cases hin : 1 ≤ len ∧ len ≤ 15
  · have F1 := fun W => refIn_q (len : Int) 1 15 true W (hide (decide_eq_true (by omega)))
    have h15 : len ≤ 15 := hin.2
    have HL := hide hL
    clear hL hin
    go_enter Try.func21, Try.ntmps21
    go_wp2_with fail
    refine (F1 _).mono ?_
    rintro e w0 ⟨rfl, hw0⟩
    subst w0
    clear F1
    go_wp2_with fail
    go_loopw [3, 4] (fun d i wr => ∃ k m : Nat, k ≤ len ∧ i = .int .i64 k ∧ d = .int .i64 m ∧ Hid (Upto xs k m) ∧ Below w.heap.size w wr) (fun _ i _ => len - (intOf i).toNat)
    case atStart => exact ⟨0, 0, Nat.zero_le _, rfl, rfl, hide (upto_zero xs), Below.refl _ _⟩
    case round =>
      obtain ⟨k, m, hk, rfl, rfl, HU, hbw⟩ := hrel
      have hmk := upto_le (unhide HU)
      by_cases hlt : k < len
      · obtain ⟨b, o, ha, hbl, c0, c1, c2, c3, c4⟩ := (hrow.on hbw).up (show k < xs.length by omega)
        subst ha
        have hsz := unhide HL xs[k] (List.getElem_mem (by omega))
        have hbx : Below w.heap.size w (wr.alloc (bxO xs[k])) := hbw.alloc hbw.size _
        have hq := quintO (heap_alloc_new wr (bxO xs[k]))
        have hkx : k < xs.length := by omega
        have HW := hide (fun (h : rightO xs[k] = false) => expr_wrong (l := xs) (show k < xs.length by omega) h)
        have HP := hide (fun (h : rightO xs[k] = true) (h' : pushO xs[k] = true) => upto_push (show k < xs.length by omega) (unhide HU) h h')
        have HT := hide (fun (h : rightO xs[k] = true) (h' : pushO xs[k] = false) (h2 : 2 ≤ m) => upto_take (show k < xs.length by omega) (unhide HU) h h' h2)
        have HF := hide (fun (h' : pushO xs[k] = false) (h2 : m < 2) => upto_few (show k < xs.length by omega) (unhide HU) h' h2)
        generalize xs[k] = t at c0 c1 c2 c3 c4 hsz hbx hq HW HP HT HF
        obtain ⟨kk, nn, vv⟩ := t
        simp only at c0 c1 c2 c3 c4
        obtain ⟨q0, q1, q2, q3, q4⟩ := hq
        simp only at q0 q1 q2 q3 q4
        obtain ⟨sz1, sz2⟩ := hsz
        simp only at sz1 sz2
        have hsw : wr.heap.size < (wr.alloc (bxO (kk, nn, vv))).heap.size := by simp
        by_cases h1 : kk = 1
        · subst h1
          have hr := r1 nn vv
          cases hv : varB nn.data.toList with
          | false =>
            have HE := hide (unhide HW (by rw [hr, hv]; rfl))
            have HV := hide hv
            clear HW HP HT HF hv hr
            go_wp2_with fail
            refine (refVar_q nn false _ sz1 HV).mono ?_
            rintro e w2 ⟨rfl, hb2⟩
            have p0 := cell_on hb2 q0
            have p1 := cell_on hb2 q1
            have p2 := cell_on hb2 q2
            have p3 := cell_on hb2 q3
            have p4 := cell_on hb2 q4
            clear c0 c1 c2 c3 c4 q0 q1 q2 q3 q4
            go_wp2_with fail
            go_ret
            exact ⟨ret_bool' (unhide HE).symm, bt hbx hb2⟩
          | true =>
            have HV := hide hv
            have hE := eqV0 vv zeroV
            by_cases hz : vv = zeroV
            · have HN := hide (unhide HP (by rw [hr, hv, decide_eq_true hz]; rfl) (p1 nn vv))
              rw [decide_eq_true hz] at hE
              simp only [zeroV] at hE
              clear HW HP HT HF hv hr hz
              go_wp2_with fail
              refine (refVar_q nn true _ sz1 HV).mono ?_
              rintro e w2 ⟨rfl, hb2⟩
              have p0 := cell_on hb2 q0
              have p1 := cell_on hb2 q1
              have p2 := cell_on hb2 q2
              have p3 := cell_on hb2 q3
              have p4 := cell_on hb2 q4
              clear c0 c1 c2 c3 c4 q0 q1 q2 q3 q4
              go_wp2_with fail
              go_roundw
              case rel => exact ⟨k + 1, m + 1, by omega, by go_num, by go_num, HN, bt hbx hb2⟩
              case measure => simp [intOf]; omega
            · have HE := hide (unhide HW (by rw [hr, hv, decide_eq_false hz]; rfl))
              rw [decide_eq_false hz] at hE
              simp only [zeroV] at hE
              clear HW HP HT HF hv hr hz
              go_wp2_with fail
              refine (refVar_q nn true _ sz1 HV).mono ?_
              rintro e w2 ⟨rfl, hb2⟩
              have p0 := cell_on hb2 q0
              have p1 := cell_on hb2 q1
              have p2 := cell_on hb2 q2
              have p3 := cell_on hb2 q3
              have p4 := cell_on hb2 q4
              clear c0 c1 c2 c3 c4 q0 q1 q2 q3 q4
              go_wp2_with fail
              go_ret
              exact ⟨ret_bool' (unhide HE).symm, bt hbx hb2⟩
        · by_cases h2 : kk = 2
          · subst h2
            have hr := r2 nn vv
            by_cases hs : nn.size = 0
            · have e0 := pos_f hs
              rw [decide_eq_true hs, Bool.true_and] at hr
              cases hv : rightVv vv with
              | false =>
                have HE := hide (unhide HW (by rw [hr, hv]))
                have HV := hide hv
                clear HW HP HT HF hv hr hs h1
                go_wp2_with fail
                refine (refVal_q vv false _ sz2 HV).mono ?_
                rintro e w2 ⟨rfl, hb2⟩
                have p0 := cell_on hb2 q0
                have p1 := cell_on hb2 q1
                have p2 := cell_on hb2 q2
                have p3 := cell_on hb2 q3
                have p4 := cell_on hb2 q4
                clear c0 c1 c2 c3 c4 q0 q1 q2 q3 q4
                go_wp2_with fail
                go_ret
                exact ⟨ret_bool' (unhide HE).symm, bt hbx hb2⟩
              | true =>
                have HN := hide (unhide HP (by rw [hr, hv]) (p2 nn vv))
                have HV := hide hv
                clear HW HP HT HF hv hr hs h1
                go_wp2_with fail
                refine (refVal_q vv true _ sz2 HV).mono ?_
                rintro e w2 ⟨rfl, hb2⟩
                have p0 := cell_on hb2 q0
                have p1 := cell_on hb2 q1
                have p2 := cell_on hb2 q2
                have p3 := cell_on hb2 q3
                have p4 := cell_on hb2 q4
                clear c0 c1 c2 c3 c4 q0 q1 q2 q3 q4
                go_wp2_with fail
                go_roundw
                case rel => exact ⟨k + 1, m + 1, by omega, by go_num, by go_num, HN, bt hbx hb2⟩
                case measure => simp [intOf]; omega
            · have e0 := pos_t hs
              have HE := hide (unhide HW (by rw [hr, decide_eq_false hs]; rfl))
              clear HW HP HT HF hr hs h1
              go_wp2_with fail
              go_ret
              exact ⟨ret_bool' (unhide HE).symm, hbx⟩
          · by_cases h3 : kk = 3 ∨ kk = 4 ∨ kk = 5
            · have hr := r3 h3 nn vv
              have hp := p3 h3 nn vv
              clear h1 h2
              have hE := eqV0 vv zeroV
              by_cases hs : nn.size = 0
              · have e0 := pos_f hs
                rw [decide_eq_true hs, Bool.true_and] at hr
                by_cases hz : vv = zeroV
                · rw [decide_eq_true hz] at hE
                  simp only [zeroV] at hE
                  by_cases hd : 2 ≤ m
                  · have HN := hide (unhide HT (by rw [hr, decide_eq_true hz]) hp hd)
                    have dd : decide ((m : Int) < 2) = false := decide_eq_false (by omega)
                    clear HW HP HT HF hr hp hs hz
                    rcases h3 with rfl | rfl | rfl
                    all_goals
                      go_wp2_with fail
                      go_roundw
                      case rel => exact ⟨k + 1, m - 1, by omega, by go_num, by rw [show ((m - 1 : Nat) : Int) = (m : Int) - 1 by omega], HN, hbx⟩
                      case measure => simp [intOf]; omega
                  · have HE := hide (unhide HF hp (by omega))
                    have dd : decide ((m : Int) < 2) = true := decide_eq_true (by omega)
                    clear HW HP HT HF hr hp hs hz hd
                    rcases h3 with rfl | rfl | rfl
                    all_goals
                      go_wp2_with fail
                      go_ret
                      exact ⟨ret_bool' (unhide HE).symm, hbx⟩
                · have HE := hide (unhide HW (by rw [hr, decide_eq_false hz]))
                  rw [decide_eq_false hz] at hE
                  simp only [zeroV] at hE
                  clear HW HP HT HF hr hp hs hz
                  rcases h3 with rfl | rfl | rfl
                  all_goals
                    go_wp2_with fail
                    go_ret
                    exact ⟨ret_bool' (unhide HE).symm, hbx⟩
              · have e0 := pos_t hs
                have HE := hide (unhide HW (by rw [hr, decide_eq_false hs]; rfl))
                clear HW HP HT HF hr hp hs hE
                rcases h3 with rfl | rfl | rfl
                all_goals
                  go_wp2_with fail
                  go_ret
                  exact ⟨ret_bool' (unhide HE).symm, hbx⟩
            · have HE := hide (unhide HW (r0 h1 h2 h3 nn vv))
              have e1 : (kk == 1) = false := by rw [beq_eq_false_iff_ne]; exact h1
              have e2 : (kk == 2) = false := by rw [beq_eq_false_iff_ne]; exact h2
              have e3 : (kk == 3) = false := by rw [beq_eq_false_iff_ne]; omega
              have e4 : (kk == 4) = false := by rw [beq_eq_false_iff_ne]; omega
              have e5 : (kk == 5) = false := by rw [beq_eq_false_iff_ne]; omega
              clear HW HP HT HF h1 h2 h3
              go_wp2_with fail
              go_ret
              exact ⟨ret_bool' (unhide HE).symm, hbx⟩
      · by_cases hd : m = 1
        · have HF := hide ((upto_end (l := xs) (by omega) (by omega) (unhide HU)).trans (decide_eq_true hd))
          subst hd
          go_wp2_with fail
          go_ret
          exact ⟨ret_bool' (unhide HF).symm, hbw⟩
        · have HF := hide ((upto_end (l := xs) (by omega) (by omega) (unhide HU)).trans (decide_eq_false hd))
          have dd : ((m : Int) == 1) = false := by simp; omega
          clear hd
          go_wp2_with fail
          go_ret
          exact ⟨ret_bool' (unhide HF).symm, hbw⟩
  · have F1 := fun W => refIn_q (len : Int) 1 15 false W (hide (decide_eq_false (by omega)))
    have HF : Hid (exprB xs = false) := by
      refine hide (Bool.eq_false_iff.2 (fun he => hin ?_))
      have := (expr_iff.1 he).1
      omega
    clear hin
    go_enter Try.func21, Try.ntmps21
    go_wp2_with fail
    refine (F1 _).mono ?_
    rintro e w0 ⟨rfl, hw0⟩
    subst w0
    clear F1
    go_wp2_with fail
    go_ret
    exact ⟨ret_bool' (unhide HF).symm, Below.refl _ _⟩
end Go.Proofs.Ytakhcifhfbiopaa.Sb

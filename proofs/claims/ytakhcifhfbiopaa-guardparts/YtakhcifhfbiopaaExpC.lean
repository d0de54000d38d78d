/- What expr.Check answers. -/
import Derived.Test.YtakhcifhfbiopaaExpB
namespace Go.Proofs.Ytakhcifhfbiopaa.Sb
open Go.RowKit
open V
open Ex (RowO LiesO flatO)

theorem run_next {l : List Oo} {k d : Nat} (hk : k < l.length) (h : runD 0 (l.take k) = some d) : runD 0 (l.take (k + 1)) = stepD d l[k] := by
  rw [List.take_succ_eq_append_getElem hk, run_app, h]
  simp only [Option.bind_some, runD]
  cases stepD d l[k] <;> rfl
theorem run_none {l : List Oo} {k : Nat} (h : runD 0 (l.take k) = none) : runD 0 l = none := by
  have := run_app (l.take k) (l.drop k) 0
  rw [List.take_append_drop, h] at this
  exact this
/-- Right so far, and how many there are. -/
def Upto (l : List Oo) (k d : Nat) : Prop := (∀ o ∈ l.take k, rightO o = true) ∧ runD 0 (l.take k) = some d
theorem upto_zero (l : List Oo) : Upto l 0 0 := ⟨by simp, by simp [runD]⟩
theorem upto_all {l : List Oo} {k d : Nat} (hk : k < l.length) (h : Upto l k d) (hr : rightO l[k] = true) : ∀ o ∈ l.take (k + 1), rightO o = true := by
  intro o ho
  rw [List.take_succ_eq_append_getElem hk] at ho
  rcases List.mem_append.1 ho with ho | ho
  · exact h.1 o ho
  · rw [List.mem_singleton.1 ho]; exact hr
theorem upto_push {l : List Oo} {k d : Nat} (hk : k < l.length) (h : Upto l k d) (hr : rightO l[k] = true) (hp : pushO l[k] = true) : Upto l (k + 1) (d + 1) :=
  ⟨upto_all hk h hr, by rw [run_next hk h.2, stepD, if_pos hp]⟩
theorem upto_take {l : List Oo} {k d : Nat} (hk : k < l.length) (h : Upto l k d) (hr : rightO l[k] = true) (hp : pushO l[k] = false) (hd : 2 ≤ d) : Upto l (k + 1) (d - 1) :=
  ⟨upto_all hk h hr, by rw [run_next hk h.2, stepD, if_neg (by simp [hp]), if_pos hd]⟩
theorem upto_few {l : List Oo} {k d : Nat} (hk : k < l.length) (h : Upto l k d) (hp : pushO l[k] = false) (hd : d < 2) : exprB l = false := by
  rw [Bool.eq_false_iff]
  intro he
  have := run_none (l := l) (k := k + 1) (by rw [run_next hk h.2, stepD, if_neg (by simp [hp]), if_neg (by omega)])
  rw [(expr_iff.1 he).2.2] at this
  cases this
theorem expr_wrong {l : List Oo} {k : Nat} (hk : k < l.length) (h : rightO l[k] = false) : exprB l = false := by
  rw [Bool.eq_false_iff]
  intro he
  have := (expr_iff.1 he).2.1 l[k] (List.getElem_mem hk)
  rw [h] at this
  cases this
theorem expr_long {l : List Oo} (h : 15 < l.length) : exprB l = false := by
  rw [Bool.eq_false_iff]
  intro he
  have := (expr_iff.1 he).1.2
  omega
theorem upto_end {l : List Oo} {k d : Nat} (hk : l.length ≤ k) (h15 : l.length ≤ 15) (h : Upto l k d) : exprB l = decide (d = 1) := by
  obtain ⟨h1, h2⟩ := h
  rw [List.take_of_length_le hk] at h1 h2
  by_cases hd : d = 1
  · subst hd
    rw [decide_eq_true rfl]
    refine expr_iff.2 ⟨⟨?_, h15⟩, h1, h2⟩
    rcases Nat.eq_zero_or_pos l.length with h0 | h0
    · rw [List.eq_nil_of_length_eq_zero h0] at h2; cases h2
    · exact h0
  · rw [decide_eq_false hd, Bool.eq_false_iff]
    intro he
    have := (expr_iff.1 he).2.2
    rw [h2] at this
    cases this
    exact hd rfl
theorem upto_le {l : List Oo} : ∀ {k d : Nat}, Upto l k d → d ≤ k
  | 0, d, h => by have := h.2; simp [runD] at this; omega
  | k + 1, d, h => by
    by_cases hk : k < l.length
    · have h2 := h.2
      have e : runD 0 (l.take (k + 1)) = (runD 0 (l.take k)).bind (fun m => stepD m l[k]) := by
        rw [List.take_succ_eq_append_getElem hk, run_app]
        cases runD 0 (l.take k) with
        | none => rfl
        | some m => simp only [Option.bind_some, runD]; cases stepD m l[k] <;> rfl
      rw [e] at h2
      cases hr : runD 0 (l.take k) with
      | none => rw [hr] at h2; cases h2
      | some m =>
        rw [hr, Option.bind_some] at h2
        have := upto_le (k := k) (d := m) (l := l) ⟨fun o ho => h.1 o (by rw [List.take_succ_eq_append_getElem hk]; exact List.mem_append_left _ ho), hr⟩
        unfold stepD at h2
        split at h2
        · cases h2; omega
        · split at h2
          · cases h2; omega
          · cases h2
    · have e : l.take (k + 1) = l.take k := by rw [List.take_of_length_le (by omega), List.take_of_length_le (by omega)]
      have := upto_le (k := k) (d := d) (l := l) ⟨by rw [← e]; exact h.1, by rw [← e]; exact h.2⟩
      omega

set_option maxHeartbeats 2000000 in
theorem echeck_any (a : Option Addr) (len cap : Nat) (xs : List Oo) (w : World) (hrow : RowO w a xs) (hl : len ≤ xs.length) (hl' : xs.length ≤ len) (hL : ∀ x ∈ xs, LtO x) (h1k : len ≤ 1000) :
    Calls Try.prog 35 #[.slice a len cap] w fun e w' => e = .returned (.int .i64 (chk (exprB xs))) ∧ Below w.heap.size w w' := by
  by_cases h15 : 15 < len
  · rw [chk_f (expr_long (l := xs) (by omega))]
    have d5 : decide (15 < (len : Int)) = true := by simp; omega
    go_enter Try.func35, Try.ntmps35
    go_wp2_with fail
    go_ret
    exact ⟨rfl, Below.refl _ _⟩
  · have d5 : decide (15 < (len : Int)) = false := by simp; omega
    have HL := hide hL
    clear hL
    go_enter Try.func35, Try.ntmps35
    go_wp2_with fail
    go_loopw [3, 5, 11] (fun d _ i wr => ∃ k m : Nat, k ≤ len ∧ i = .int .i64 k ∧ d = .int .i64 m ∧ Hid (Upto xs k m) ∧ Below w.heap.size w wr) (fun _ _ i _ => len - (intOf i).toNat)
    case atStart => exact ⟨0, 0, Nat.zero_le _, rfl, rfl, hide (upto_zero xs), Below.refl _ _⟩
    case round =>
      obtain ⟨k, m, hk, rfl, rfl, HU, hbw⟩ := hrel
      have hmk := upto_le (unhide HU)
      by_cases hlt : k < len
      · obtain ⟨b, o, ha, hbl, c0, c1, c2, c3, c4⟩ := (hrow.on hbw).up (show k < xs.length by omega)
        subst ha
        have hsz := unhide HL xs[k] (List.getElem_mem (by omega))
        have hbx : Below w.heap.size w (wr.alloc (bxO xs[k])) := hbw.alloc hbw.size _
        have hq := quintO (heap_alloc_new wr (bxO xs[k]))
        cases hr : rightO xs[k] with
        | false =>
          have HF := hide (chk_f (expr_wrong (show k < xs.length by omega) hr))
          have HR := hide hr
          clear hr hq
          generalize xs[k] = t at c0 c1 c2 c3 c4 hsz hbx HR
          go_wp2_with fail
          refine (isRightO_q t false _ hsz HR).mono ?_
          rintro e w2 ⟨rfl, hb2⟩
          go_wp2_with fail
          go_ret
          exact ⟨ret_int (unhide HF).symm, bt hbx hb2⟩
        | true =>
          have HR := hide hr
          cases hp : pushO xs[k] with
          | true =>
            have HN := hide (upto_push (show k < xs.length by omega) (unhide HU) hr hp)
            have HP := hide hp
            clear hr hp
            generalize xs[k] = t at c0 c1 c2 c3 c4 hsz hbx HR HP hq
            obtain ⟨q0, q1, q2, q3, q4⟩ := hq
            go_wp2_with fail
            refine (isRightO_q t true _ hsz HR).mono ?_
            rintro e w2 ⟨rfl, hb2⟩
            have p0 := cell_on hb2 q0
            have p1 := cell_on hb2 q1
            have p2 := cell_on hb2 q2
            have p3 := cell_on hb2 q3
            have p4 := cell_on hb2 q4
            have hb3 := bt hbx hb2
            clear c0 c1 c2 c3 c4 q0 q1 q2 q3 q4 hbx hb2
            go_wp2_with fail
            refine (pushes_q t true _ HP).mono ?_
            rintro e w4 ⟨rfl, hb4⟩
            clear p0 p1 p2 p3 p4
            go_wp2_with fail
            go_roundw
            case rel => exact ⟨k + 1, m + 1, by omega, by go_num, by go_num, HN, bt hb3 hb4⟩
            case measure => simp [intOf]; omega
          | false =>
            have HP := hide hp
            by_cases hd : 2 ≤ m
            · have HN := hide (upto_take (show k < xs.length by omega) (unhide HU) hr hp hd)
              have dd : decide ((m : Int) < 2) = false := decide_eq_false (by omega)
              clear hr hp
              generalize xs[k] = t at c0 c1 c2 c3 c4 hsz hbx HR HP hq
              obtain ⟨q0, q1, q2, q3, q4⟩ := hq
              go_wp2_with fail
              refine (isRightO_q t true _ hsz HR).mono ?_
              rintro e w2 ⟨rfl, hb2⟩
              have p0 := cell_on hb2 q0
              have p1 := cell_on hb2 q1
              have p2 := cell_on hb2 q2
              have p3 := cell_on hb2 q3
              have p4 := cell_on hb2 q4
              have hb3 := bt hbx hb2
              clear c0 c1 c2 c3 c4 q0 q1 q2 q3 q4 hbx hb2
              go_wp2_with fail
              refine (pushes_q t false _ HP).mono ?_
              rintro e w4 ⟨rfl, hb4⟩
              clear p0 p1 p2 p3 p4
              go_wp2_with fail
              go_roundw
              case rel => exact ⟨k + 1, m - 1, by omega, by go_num, by rw [show ((m - 1 : Nat) : Int) = (m : Int) - 1 by omega], HN, bt hb3 hb4⟩
              case measure => simp [intOf]; omega
            · have HF := hide (chk_f (upto_few (show k < xs.length by omega) (unhide HU) hp (by omega)))
              have dd : decide ((m : Int) < 2) = true := decide_eq_true (by omega)
              clear hr hp
              generalize xs[k] = t at c0 c1 c2 c3 c4 hsz hbx HR HP hq
              obtain ⟨q0, q1, q2, q3, q4⟩ := hq
              go_wp2_with fail
              refine (isRightO_q t true _ hsz HR).mono ?_
              rintro e w2 ⟨rfl, hb2⟩
              have p0 := cell_on hb2 q0
              have p1 := cell_on hb2 q1
              have p2 := cell_on hb2 q2
              have p3 := cell_on hb2 q3
              have p4 := cell_on hb2 q4
              have hb3 := bt hbx hb2
              clear c0 c1 c2 c3 c4 q0 q1 q2 q3 q4 hbx hb2
              go_wp2_with fail
              refine (pushes_q t false _ HP).mono ?_
              rintro e w4 ⟨rfl, hb4⟩
              clear p0 p1 p2 p3 p4
              go_wp2_with fail
              go_ret
              exact ⟨ret_int (unhide HF).symm, bt hb3 hb4⟩
      · by_cases hd : m = 1
        · have HF := hide (chk_t ((upto_end (l := xs) (by omega) (by omega) (unhide HU)).trans (decide_eq_true hd)))
          subst hd
          go_wp2_with fail
          go_ret
          exact ⟨ret_int (unhide HF).symm, hbw⟩
        · have HF := hide (chk_f ((upto_end (l := xs) (by omega) (by omega) (unhide HU)).trans (decide_eq_false hd)))
          have dd : ((m : Int) != 1) = true := by simp; omega
          clear hd
          go_wp2_with fail
          go_ret
          exact ⟨ret_int (unhide HF).symm, hbw⟩
end Go.Proofs.Ytakhcifhfbiopaa.Sb

/- What match.isRight, match.Check answer. -/
import Derived.Test.YtmoalmpcobljkaaSubG
import Derived.Test.YtmoalmpcobljkaaMatQ
import Derived.Test.YtmoalmpcobljkaaFactL
import Derived.Test.YtmoalmpcobljkaaFactO
namespace Go.Proofs.Ytmoalmpcobljkaa.Sb
open Go.RowKit
open V

theorem eqV0 (x y : Vv) (w : World) : (Op.equalIn 10000 40 (.agg #[.int .i64 x.1, .int .i64 x.2.1, .string x.2.2]) (.agg #[.int .i64 y.1, .int .i64 y.2.1, .string y.2.2])).run Try.prog w = .ok (decide (x = y)) w := by
  have u3 := Try.underlying3
  have a3 := Try.isAgg3
  have z3 := Try.sizeOf3
  have u9 := Try.underlying9
  have a9 := Try.isAgg9
  have z9 := Try.sizeOf9
  have hS : Try.prog.underlying 40 = some (.struct (Try.prog.fieldsOf 40)) := by kernel_rfl
  have hp : Try.prog.stoodInHeld 40 = false := by kernel_rfl
  rw [show (10000 : Nat) = 9999 + 1 from rfl, run_equalIn_agg w 9999 40 _ _ hS hp]
  simp only [Program.fieldsOf, Try.underlying40]
  go_simp
  simp only [toList_inj]
  obtain ⟨a, b, c⟩ := x
  obtain ⟨a', b', c'⟩ := y
  by_cases h1 : a = a' <;> by_cases h2 : b = b' <;> by_cases h3 : c = c' <;> simp [h1, h2, h3]

abbrev bxT (x : Bb) : Obj := .cells #[.string x.1, .int .i64 x.2.1, .int .i64 x.2.2.1, .string x.2.2.2] 47
theorem quadT {w : World} {b : Nat} {x : Bb} (h : w.heap[b]? = some (bxT x)) : w.cell? ⟨b, 0, none⟩ = some (.string x.1) ∧ w.cell? ⟨b, 1, none⟩ = some (.int .i64 x.2.1) ∧ w.cell? ⟨b, 2, none⟩ = some (.int .i64 x.2.2.1) ∧ w.cell? ⟨b, 3, none⟩ = some (.string x.2.2.2) := by
  refine ⟨?_, ?_, ?_, ?_⟩ <;> (rw [Lib.cell_of_heap h]; rfl)
theorem emp_t {s : ByteArray} (h : s.size = 0) : s.toList.isEmpty = true := by rw [isEmpty_of]; exact decide_eq_true (by omega)
theorem emp_f {s : ByteArray} (h : s.size ≠ 0) : s.toList.isEmpty = false := by rw [isEmpty_of]; exact decide_eq_false (by omega)

set_option maxHeartbeats 1000000 in
theorem isRightT_q (t : Bb) (q : Bool) (w : World) (ht : Lt t) (H : Hid (rightT t = q)) :
    Calls Try.prog 32 #[.agg #[.string t.1, .int .i64 t.2.1, .int .i64 t.2.2.1, .string t.2.2.2]] w fun e w' => e = .returned (.bool q) ∧ Below w.heap.size w w' := by
  have hba : Below w.heap.size w (w.alloc (bxT t)) := (Below.refl _ _).alloc (Nat.le_refl _) _
  obtain ⟨c0, c1, c2, c3⟩ := quadT (heap_alloc_new w (bxT t))
  by_cases hz : t.1.size = 0
  · have e0 := emp_t hz
    have HQ : Hid (rightVv t.2 = q) := hide (by rw [← unhide H, rightT, if_pos hz])
    clear hz H
    cases hr : rightVv t.2 with
    | false =>
      have HQ' : Hid (false = q) := hide (hr.symm.trans (unhide HQ))
      go_enter Try.func32, Try.ntmps32
      go_wp2_with fail
      refine (vcheck_x t.2 1 _ ht.2 (hide (chk_f hr))).mono ?_
      rintro e w1 ⟨rfl, hb1⟩
      clear c0 c1 c2 c3 hr e0
      go_wp2_with fail
      go_ret
      exact ⟨ret_bool' (unhide HQ'), bt hba hb1⟩
    | true =>
      have HQ' : Hid (true = q) := hide (hr.symm.trans (unhide HQ))
      go_enter Try.func32, Try.ntmps32
      go_wp2_with fail
      refine (vcheck_x t.2 0 _ ht.2 (hide (chk_t hr))).mono ?_
      rintro e w1 ⟨rfl, hb1⟩
      clear c0 c1 c2 c3 hr e0
      go_wp2_with fail
      go_ret
      exact ⟨ret_bool' (unhide HQ'), bt hba hb1⟩
  · have e0 := emp_f hz
    have HQ : Hid ((varB t.1.data.toList && decide (t.2 = zeroV)) = q) := hide (by rw [← unhide H, rightT, if_neg hz])
    clear hz H
    cases hv : varB t.1.data.toList with
    | false =>
      have HQ' : Hid (false = q) := hide (by rw [← unhide HQ, hv]; rfl)
      go_enter Try.func32, Try.ntmps32
      go_wp2_with fail
      refine (var_q t.1 false _ ht.1 (hide hv)).mono ?_
      rintro e w1 ⟨rfl, hb1⟩
      clear c0 c1 c2 c3 hv e0
      go_wp2_with fail
      go_ret
      exact ⟨ret_bool' (unhide HQ'), bt hba hb1⟩
    | true =>
      have HQ' : Hid (decide (t.2 = zeroV) = q) := hide (by rw [← unhide HQ, hv]; rfl)
      have hE := eqV0 t.2 zeroV
      rw [unhide HQ'] at hE
      simp only [zeroV] at hE
      go_enter Try.func32, Try.ntmps32
      go_wp2_with fail
      refine (var_q t.1 true _ ht.1 (hide hv)).mono ?_
      rintro e w1 ⟨rfl, hb1⟩
      have d1 := cell_on hb1 c1
      have d2 := cell_on hb1 c2
      have d3 := cell_on hb1 c3
      clear c0 c1 c2 c3 hv e0
      go_wp2_with fail
      go_ret
      exact ⟨rfl, bt hba hb1⟩

/-- A right atom. -/
def rightA (n : ByteArray) (ts : List Bb) : Bool := nameB n.data.toList && (decide (ts.length ≤ 5) && ts.all rightT)
theorem allT_get {ts : List Bb} {k : Nat} (hk : k < ts.length) (h : rightT ts[k] = false) : ts.all rightT = false := by
  rw [List.all_eq_false]
  exact ⟨ts[k], List.getElem_mem hk, by simp [h]⟩
theorem allT_take {ts : List Bb} {k : Nat} (hk : k < ts.length) (h : rightT ts[k] = true) (hp : (ts.take k).all rightT = true) : (ts.take (k + 1)).all rightT = true := by
  rw [List.take_succ_eq_append_getElem hk, List.all_append, hp]
  simp [h]

set_option maxHeartbeats 1000000 in
theorem acheck_any (n : ByteArray) (a : Option Addr) (len cap : Nat) (ts : List Bb) (w : World) (hn : n.size ≤ 200) (hv : ∀ t ∈ ts, Lt t) (hrow : RowB w a ts) (hl : len ≤ ts.length) (hl' : ts.length ≤ len) (h20 : len ≤ 20) :
    Calls Try.prog 19 #[.agg #[.string n, .slice a len cap]] w fun e w' => e = .returned (.int .i64 (chk (rightA n ts))) ∧ Below w.heap.size w w' := by
  have hlen : ts.length = len := by omega
  cases hnm : nameB n.data.toList with
  | false =>
    rw [chk_f (b := rightA _ _) (by simp [rightA, hnm])]
    go_enter Try.func19, Try.ntmps19
    go_wp2_with (go_at_call 31; refine (name_any _ _ (by unfold maxLen; omega)).mono ?_; rintro e w1 ⟨rfl, hb1⟩; rw [hnm])
    go_ret
    exact ⟨rfl, below_box hb1⟩
  | true =>
    by_cases h5 : 5 < len
    · rw [chk_f (b := rightA _ _) (by simp [rightA, hlen]; intros; omega)]
      have d5 : decide (5 < (len : Int)) = true := by simp; omega
      clear hlen
      go_enter Try.func19, Try.ntmps19
      go_wp2_with (go_at_call 31; refine (name_any _ _ (by unfold maxLen; omega)).mono ?_; rintro e w1 ⟨rfl, hb1⟩; rw [hnm]; obtain ⟨hcl, hfr⟩ := bcell hb1)
      go_ret
      exact ⟨rfl, below_box hb1⟩
    · have d5 : decide (5 < (len : Int)) = false := by simp; omega
      have hrf : rightA n ts = ts.all rightT := by simp [rightA, hnm, hlen]; omega
      rw [hrf]
      clear hlen hrf
      go_enter Try.func19, Try.ntmps19
      go_wp2_with (go_at_call 31; refine (name_any _ _ (by unfold maxLen; omega)).mono ?_; rintro e w1 ⟨rfl, hb1⟩; rw [hnm]; obtain ⟨hcl, hfr⟩ := bcell hb1)
      have hw1 := below_box hb1
      clear hb1 hcl hfr hnm
      go_loopw [4, 18] (fun _ i wr => ∃ k : Nat, k ≤ len ∧ i = .int .i64 k ∧ Hid ((ts.take k).all rightT = true) ∧ Below w.heap.size w wr) (fun _ i _ => len - (intOf i).toNat)
      case atStart => exact ⟨0, Nat.zero_le _, rfl, hide rfl, hw1⟩
      case round =>
        obtain ⟨k, hk, rfl, HK, hbw⟩ := hrel
        by_cases hlt : k < len
        · obtain ⟨b, o, ha, hbl, c0, c1, c2, c3⟩ := (hrow.on hbw).up (show k < ts.length by omega)
          subst ha
          have hsz := hv ts[k] (List.getElem_mem (by omega))
          have hbx : Below w.heap.size w (wr.alloc (bxT ts[k])) := hbw.alloc hbw.size _
          cases hr : rightT ts[k] with
          | false =>
            have HF := hide (chk_f (allT_get (show k < ts.length by omega) hr))
            have HR := hide hr
            clear hr
            generalize ts[k] = t at c0 c1 c2 c3 hsz hbx HR
            go_wp2_with fail
            refine (isRightT_q t false _ hsz HR).mono ?_
            rintro e w2 ⟨rfl, hb2⟩
            go_wp2_with fail
            go_ret
            exact ⟨ret_int (unhide HF).symm, bt hbx hb2⟩
          | true =>
            have HN := hide (allT_take (show k < ts.length by omega) hr (unhide HK))
            have HR := hide hr
            clear hr
            generalize ts[k] = t at c0 c1 c2 c3 hsz hbx HR
            go_wp2_with fail
            refine (isRightT_q t true _ hsz HR).mono ?_
            rintro e w2 ⟨rfl, hb2⟩
            go_wp2_with fail
            go_roundw
            case rel => exact ⟨k + 1, by omega, by go_num, HN, bt hbx hb2⟩
            case measure => simp [intOf]; omega
        · have ht : ts.all rightT = true := by
            have := unhide HK
            rwa [List.take_of_length_le (by omega)] at this
          have HF := hide (chk_t ht)
          clear ht
          go_wp2_with fail
          go_ret
          exact ⟨ret_int (unhide HF).symm, hbw⟩
end Go.Proofs.Ytmoalmpcobljkaa.Sb

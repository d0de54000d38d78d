/- What the document's own Set answers. -/
import Derived.Test.YtmnonjacomabbaaSetM
import Derived.Lib.QuietBelow
namespace Go.Proofs.Ytmnonjacomabbaa
open Go.RowKit
open V

theorem setB_take {fs : List Fb} {k : Nat} (hk : k < fs.length) (h : setB ((fs.take k).map Fb.l) = true) (hr : rightF fs[k].l = true) (hc : ∀ j (hj : k = j + 1), cmpF fs[j].l fs[k].l < 0) : setB ((fs.take (k + 1)).map Fb.l) = true := by
  simp only [setB, Bool.and_eq_true] at h ⊢
  refine ⟨allF_take hk hr h.1, riseB_iff.2 (fun i hi => ?_)⟩
  simp only [List.length_map, List.length_take] at hi
  simp only [List.getElem_map, List.getElem_take]
  by_cases e : i + 1 = k
  · subst e; exact hc i rfl
  · have := riseB_iff.1 h.2 i (by simp; omega)
    simpa using this
theorem setB_bad {fs : List Fb} {k : Nat} (hk : k < fs.length) (h : rightF fs[k].l = false) : setB (fs.map Fb.l) = false := by
  simp [setB, allF_get hk h]
theorem setB_fall {fs : List Fb} {j : Nat} (hk : j + 1 < fs.length) (h : ¬ cmpF fs[j].l fs[j + 1].l < 0) : setB (fs.map Fb.l) = false := by
  simp [setB, riseF_f hk h]

set_option maxHeartbeats 8000000 in
theorem refSet_any (a : Option Addr) (len cap : Nat) (fs : List Fb) (q : Bool) (w : World) (hrow : RowF w a fs) (hl : len ≤ fs.length) (hl' : fs.length ≤ len) (h1k : len ≤ 1000) (hL : ∀ f ∈ fs, f.Light) (H : Hid (setB (fs.map Fb.l) = q)) :
    Calls Try.prog 20 #[.slice a len cap] w fun e w' => e = .returned (.bool q) ∧ Below w.heap.size w w' := by
  go_enter Try.func20, Try.ntmps20
  go_wp2_with fail
  go_loopw [3] (fun i wr => ∃ k : Nat, k ≤ len ∧ i = .int .i64 k ∧ Hid (setB ((fs.take k).map Fb.l) = true) ∧ Below w.heap.size w wr) (fun i _ => len - (intOf i).toNat)
  case atStart => exact ⟨0, Nat.zero_le _, rfl, hide rfl, Below.refl _ _⟩
  case round =>
    obtain ⟨k, hk, rfl, HK, hbw⟩ := hrel
    by_cases hlt : k < len
    · obtain ⟨b, o, ha, hbl, c0, c1, hin⟩ := (hrow.on hbw).up (show k < fs.length by omega)
      subst ha
      have lf := hL fs[k] (List.getElem_mem (by omega))
      cases hr : rightF fs[k].l with
      | false =>
        have HQ : Hid (rightF fs[k].l = false) := hide hr
        have HE : Hid (q = false) := hide (by rw [← unhide H]; exact setB_bad (by omega) hr)
        clear hr
        generalize fs[k] = x at c0 c1 hin lf HQ
        have k0 := cell_regrown c0
        have k1 := cell_regrown c1
        have cF : ∀ d os, Calls Try.prog 17 #[.agg #[.string x.n, .slice x.a x.len x.cap]] (Sort.grow (redrawn wr d) os) fun e w'' => e = .returned (.bool false) ∧ ∃ p : Regrown, w'' = Sort.grow (redrawn wr p.d) p.os := fun d os => Calls.regrown_of (refFact_q x false _ (hin.on (below_regrown wr d os)) lf HQ)
        go_wp2_with fail
        refine wp_region_quiet_below (by kernel_rfl) (by kernel_rfl) ?_
        repeat (go_big_quiet_step (exact cF _ _))
        refine wpQuiet_nil ?_
        intro _ hw'
        obtain ⟨⟨dq, osq⟩, hw''⟩ := hw'
        subst hw''
        have hbw' := bt hbw (below_regrown wr dq osq)
        generalize Sort.grow (redrawn wr dq) osq = w' at hbw'
        clear cF k0 k1 c0 c1 hin
        go_wp2_with fail
        go_ret
        exact ⟨ret_bool' (unhide HE).symm, hbw'⟩
      | true =>
        have HQ : Hid (rightF fs[k].l = true) := hide hr
        by_cases hk0 : k = 0
        · have HN : Hid (setB ((fs.take (k + 1)).map Fb.l) = true) := hide (setB_take (by omega) (unhide HK) hr (fun j hj => by omega))
          have hd0 : decide (0 < k) = false := by simp; omega
          clear hr hk0
          generalize fs[k] = x at c0 c1 hin lf HQ
          have k0 := cell_regrown c0
          have k1 := cell_regrown c1
          have cF : ∀ d os, Calls Try.prog 17 #[.agg #[.string x.n, .slice x.a x.len x.cap]] (Sort.grow (redrawn wr d) os) fun e w'' => e = .returned (.bool true) ∧ ∃ p : Regrown, w'' = Sort.grow (redrawn wr p.d) p.os := fun d os => Calls.regrown_of (refFact_q x true _ (hin.on (below_regrown wr d os)) lf HQ)
          go_wp2_with fail
          refine wp_region_quiet_below (by kernel_rfl) (by kernel_rfl) ?_
          repeat (go_big_quiet_step (exact cF _ _))
          refine wpQuiet_nil ?_
          intro _ hw'
          obtain ⟨⟨dq, osq⟩, hw''⟩ := hw'
          subst hw''
          have hbw' := bt hbw (below_regrown wr dq osq)
          generalize Sort.grow (redrawn wr dq) osq = w' at hbw'
          clear cF k0 k1 c0 c1 hin
          go_wp2_with fail
          go_roundw
          case rel => exact ⟨k + 1, by omega, by go_num, HN, hbw'⟩
          case measure => simp [intOf]; omega
        · obtain ⟨j, hjk⟩ : ∃ j, k = j + 1 := ⟨k - 1, by omega⟩
          obtain ⟨b', o', ha', hbl', c0', c1', hin'⟩ := (hrow.on hbw).up (show j < fs.length by omega)
          simp only [Option.some.injEq, Addr.mk.injEq, and_true] at ha'
          obtain ⟨rfl, rfl⟩ := ha'
          have lf' := hL fs[j] (List.getElem_mem (by omega))
          have hd0 : decide (0 < k) = true := by simp; omega
          have e0 : (k : Int) - 1 = (j : Int) := by omega
          have e4 : IntKind.i64.wrap (j : Int) = (j : Int) := by simp [IntKind.wrap, IntKind.bits, IntKind.signed]; omega
          have e2 : (j : Int) < (len : Int) := by omega
          have e3 : (0 : Int) ≤ (j : Int) := by omega
          have HN : Hid (cmpF fs[j].l fs[k].l < 0 → setB ((fs.take (k + 1)).map Fb.l) = true) := hide (fun hz => setB_take (by omega) (unhide HK) hr (fun j' hj' => by
            have : j' = j := by omega
            subst this; exact hz))
          have HF : Hid (0 ≤ cmpF fs[j].l fs[k].l → q = false) := by
            refine hide (fun hz => ?_)
            rw [← unhide H]
            subst hjk
            exact setB_fall (j := j) (by omega) (by omega)
          obtain ⟨x0, hx0⟩ : ∃ x0, cmpF fs[j].l fs[k].l = x0 := ⟨_, rfl⟩
          rw [hx0] at HN HF
          have HX := hide hx0
          clear hr hk0 hx0
          generalize fs[k] = x at c0 c1 hin lf HQ HX
          generalize fs[j] = y at c0' c1' hin' lf' HX
          clear hjk
          have k0 := cell_regrown c0
          have k1 := cell_regrown c1
          have m0 := cell_regrown c0'
          have m1 := cell_regrown c1'
          have cF : ∀ d os, Calls Try.prog 17 #[.agg #[.string x.n, .slice x.a x.len x.cap]] (Sort.grow (redrawn wr d) os) fun e w'' => e = .returned (.bool true) ∧ ∃ p : Regrown, w'' = Sort.grow (redrawn wr p.d) p.os := fun d os => Calls.regrown_of (refFact_q x true _ (hin.on (below_regrown wr d os)) lf HQ)
          have cG : ∀ d os, Calls Try.prog 39 #[.agg #[.string y.n, .slice y.a y.len y.cap], .agg #[.string x.n, .slice x.a x.len x.cap]] (Sort.grow (redrawn wr d) os) fun e w'' => e = .returned (.int .i64 x0) ∧ ∃ p : Regrown, w'' = Sort.grow (redrawn wr p.d) p.os := fun d os => Calls.regrown_of (refFacts_x y x x0 _ lf' lf (hin'.on (below_regrown wr d os)) (hin.on (below_regrown wr d os)) HX)
          go_wp2_with fail
          refine wp_region_quiet_below (by kernel_rfl) (by kernel_rfl) ?_
          repeat (go_big_quiet_step (first | exact cF _ _ | exact cG _ _))
          refine wpQuiet_nil ?_
          intro _ hw'
          obtain ⟨⟨dq, osq⟩, hw''⟩ := hw'
          subst hw''
          have hbw' := bt hbw (below_regrown wr dq osq)
          generalize Sort.grow (redrawn wr dq) osq = w' at hbw'
          clear cF cG k0 k1 m0 m1 c0 c1 hin c0' c1' hin' e0 e4 e2 e3 hd0
          by_cases hz : x0 < 0
          · have HN' := hide (unhide HN hz)
            have hz' : ¬ (0 ≤ x0) := by omega
            clear HN HF
            go_wp2_with fail
            go_roundw
            case rel => exact ⟨k + 1, by omega, by go_num, HN', hbw'⟩
            case measure => simp [intOf]; omega
          · have hz' : 0 ≤ x0 := by omega
            have HE := hide (unhide HF hz')
            clear HN HF
            go_wp2_with fail
            go_ret
            exact ⟨ret_bool' (unhide HE).symm, hbw'⟩
    · have HE : Hid (q = true) := by
        refine hide ?_
        have h := unhide HK
        rw [List.take_of_length_le (by omega)] at h
        rw [← unhide H, h]
      go_wp2_with fail
      go_ret
      exact ⟨ret_bool' (unhide HE).symm, hbw⟩
end Go.Proofs.Ytmnonjacomabbaa

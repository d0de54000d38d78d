/- What subst.Var, isRight, byVar answer. -/
import Derived.Test.YtakhcifhfbiopaaSubB
import Derived.Test.YtakhcifhfbiopaaOwnD
import Derived.Lib.QuietBelow
import Derived.Sort.Grow
namespace Go.Proofs.Ytakhcifhfbiopaa.Sb
open Go.RowKit
open V

theorem var_sym (c : UInt8) (r : List UInt8) (h : upB c.toNat = true) : symB (97 :: r) = varB (c :: r) := by
  have hc : innB c = true := by simp [innB, h]
  simp [symB, varB, h, hc, List.all_cons, show lowB 97 = true from rfl, show innB 97 = true from rfl]
theorem cut_list (s : ByteArray) (h0 : 0 < s.size) (h : upB s[0].toNat = true) : rightB 2 0 (({ data := #[97] } : ByteArray) ++ s.extract 1 s.size).data.toList = varB s.data.toList := by
  have h00 : s.data.toList[0]? = some s[0] := get_data s 0 h0
  have e : (({ data := #[97] } : ByteArray) ++ s.extract 1 s.size).data.toList = 97 :: s.data.toList.drop 1 := by
    simp [ByteArray.data_append, ByteArray.data_extract]
    exact List.take_of_length_le (by simp)
  rw [e]
  cases hs : s.data.toList with
  | nil => rw [hs] at h00; simp at h00
  | cons c r =>
    rw [hs] at h00
    simp at h00
    rw [← h00] at h
    simpa [rightB] using var_sym c r h
theorem cut_size (s : ByteArray) (hs : s.size ≤ 200) : (({ data := #[97] } : ByteArray) ++ s.extract 1 s.size).size ≤ maxLen := by
  have : (({ data := #[97] } : ByteArray) ++ s.extract 1 s.size).size = 1 + (s.size - 1) := by
    simp [ByteArray.size_append, ByteArray.size_extract]; rfl
  unfold maxLen
  omega

set_option maxHeartbeats 1000000 in
theorem var_any (s : ByteArray) (w : World) (hs : s.size ≤ 200) :
    Calls Try.prog 65 #[.string s] w fun e w' => e = .returned (.bool (varB s.data.toList)) ∧ Below w.heap.size w w' := by
  by_cases h0 : 0 < s.size
  · have e0 : s.toList.isEmpty = false := by rw [isEmpty_of]; exact decide_eq_false (by omega)
    have HV := hide (varB_of s h0)
    by_cases h24 : 24 < s.size
    · have HF : Hid (varB s.data.toList = false) := hide (by rw [varB_of s h0]; simp; omega)
      have d24 : decide (24 < (s.size : Int)) = true := by simp; omega
      go_enter Try.func65, Try.ntmps65
      go_wp2_with fail
      go_ret
      exact ⟨ret_bool' (unhide HF).symm, Below.refl _ _⟩
    · have d24 : decide (24 < (s.size : Int)) = false := by simp; omega
      by_cases hA : (s[0].toNat : Int) < 65
      · have HF : Hid (varB s.data.toList = false) := hide (by rw [varB_of s h0, upB_f (c := s[0].toNat) (by omega)]; simp)
        have dA : decide ((s[0].toNat : Int) < 65) = true := decide_eq_true hA
        go_enter Try.func65, Try.ntmps65
        go_wp2_with fail
        go_ret
        exact ⟨ret_bool' (unhide HF).symm, Below.refl _ _⟩
      · have dA : decide ((s[0].toNat : Int) < 65) = false := decide_eq_false hA
        by_cases hZ : 90 < (s[0].toNat : Int)
        · have HF : Hid (varB s.data.toList = false) := hide (by rw [varB_of s h0, upB_f (c := s[0].toNat) (by omega)]; simp)
          have dZ : decide (90 < (s[0].toNat : Int)) = true := decide_eq_true hZ
          go_enter Try.func65, Try.ntmps65
          go_wp2_with fail
          go_ret
          exact ⟨ret_bool' (unhide HF).symm, Below.refl _ _⟩
        · have dZ : decide (90 < (s[0].toNat : Int)) = false := decide_eq_false hZ
          have hc := check_any 2 0 (({ data := #[97] } : ByteArray) ++ s.extract 1 s.size) w (cut_size s hs)
          rw [cut_list s h0 (upB_t (by omega) (by omega))] at hc
          cases hv : varB s.data.toList with
          | false =>
            rw [hv, show chk false = 1 from rfl] at hc
            clear HV
            go_enter Try.func65, Try.ntmps65
            go_wp2_with fail
            refine hc.mono ?_
            rintro e w1 ⟨rfl, hb1⟩
            go_wp2_with fail
            go_ret
            exact ⟨rfl, hb1⟩
          | true =>
            rw [hv, show chk true = 0 from rfl] at hc
            clear HV
            go_enter Try.func65, Try.ntmps65
            go_wp2_with fail
            refine hc.mono ?_
            rintro e w1 ⟨rfl, hb1⟩
            go_wp2_with fail
            go_ret
            exact ⟨rfl, hb1⟩
  · have e0 : s.toList.isEmpty = true := by rw [isEmpty_of]; exact decide_eq_true (by omega)
    have HF : Hid (varB s.data.toList = false) := hide (varB_none h0)
    go_enter Try.func65, Try.ntmps65
    go_wp2_with fail
    go_ret
    exact ⟨ret_bool' (unhide HF).symm, Below.refl _ _⟩

abbrev bxB (x : Bb) : Obj := .cells #[.string x.1, .int .i64 x.2.1, .int .i64 x.2.2.1, .string x.2.2.2] 54
/-- Of what was there nothing has turned, and no draw was taken back. -/
structure Grew (w w' : World) : Prop where
  b : Below w.heap.size w w'
  d : w.drawn ≤ w'.drawn
theorem Grew.refl (w : World) : Grew w w := ⟨Below.refl _ _, Nat.le_refl _⟩
theorem Grew.alloc {a w : World} (h : Grew a w) (o : Obj) : Grew a (w.alloc o) := ⟨h.b.alloc h.b.size _, h.d⟩
theorem Grew.out {w w' : World} (h : Grew w w') : ∃ q os, w' = Sort.grow (w.drewN q) os := by
  obtain ⟨hb, hd⟩ := h
  refine ⟨w'.drawn - w.drawn, w'.heap.extract w.heap.size w'.heap.size, ?_⟩
  obtain ⟨heap', tape', drawn', os', output'⟩ := w'
  have e1 : os' = w.os := hb.os
  have e2 : tape' = w.tape := hb.tape
  have e3 : output' = w.output := hb.output
  have hs : w.heap.size ≤ heap'.size := hb.size
  have hbl : ∀ k, k < w.heap.size → heap'[k]? = w.heap[k]? := hb.block
  have hd' : w.drawn ≤ drawn' := hd
  subst e1 e2 e3
  have eh : heap' = w.heap ++ heap'.extract w.heap.size heap'.size := by
    apply Array.ext_getElem?
    intro k
    by_cases hk : k < w.heap.size
    · rw [Array.getElem?_append_left hk]; exact hbl k hk
    · rw [Array.getElem?_append_right (by omega), Array.getElem?_extract]
      by_cases hk2 : k < heap'.size
      · rw [if_pos (by omega)]; congr 1; omega
      · rw [if_neg (by omega), Array.getElem?_eq_none (by omega)]
  simp only [Sort.grow, World.drewN]
  congr 1
  omega

set_option maxHeartbeats 1000000 in
theorem byVar_g (x y : Bb) (w : World) :
    Calls Try.prog 56 #[.agg #[.string x.1, .int .i64 x.2.1, .int .i64 x.2.2.1, .string x.2.2.2], .agg #[.string y.1, .int .i64 y.2.1, .int .i64 y.2.2.1, .string y.2.2.2]] w fun e w' => e = .returned (.int .i64 (byV x y)) ∧ Grew w w' := by
  go_enter Try.func56, Try.ntmps56
  go_wp2_with (go_at_call 46; refine (Try.strings_Compare _ _ _).mono ?_; rintro e w' ⟨rfl, rfl⟩)
  go_ret
  exact ⟨rfl, ((Grew.refl w).alloc _).alloc _⟩
theorem byVar_x (x y : Bb) (n : Int) (w : World) (H : Hid (byV x y = n)) :
    Calls Try.prog 56 #[.agg #[.string x.1, .int .i64 x.2.1, .int .i64 x.2.2.1, .string x.2.2.2], .agg #[.string y.1, .int .i64 y.2.1, .int .i64 y.2.2.1, .string y.2.2.2]] w fun e w' => e = .returned (.int .i64 n) ∧ Below w.heap.size w w' := by
  refine (byVar_g x y w).mono ?_
  rintro e w' ⟨rfl, h⟩
  exact ⟨ret_int (unhide H), h.b⟩

theorem var_q (s : ByteArray) (q : Bool) (w : World) (hs : s.size ≤ 200) (H : Hid (varB s.data.toList = q)) :
    Calls Try.prog 65 #[.string s] w fun e w' => e = .returned (.bool q) ∧ Below w.heap.size w w' := by
  have := var_any s w hs
  rw [unhide H] at this
  exact this
theorem vcheck_x (v : Vv) (n : Int) (w : World) (hs : v.2.2.size ≤ 200) (H : Hid (chk (rightVv v) = n)) :
    Calls Try.prog 27 #[.agg #[.int .i64 v.1, .int .i64 v.2.1, .string v.2.2]] w fun e w' => e = .returned (.int .i64 n) ∧ Below w.heap.size w w' := by
  have := check_any v.1 v.2.1 v.2.2 w (by unfold maxLen; omega)
  rw [show chk (rightB v.1 v.2.1 v.2.2.data.toList) = n from unhide H] at this
  exact this

theorem quad_of {w : World} {b : Nat} {x : Bb} (h : w.heap[b]? = some (bxB x)) : w.cell? ⟨b, 0, none⟩ = some (.string x.1) ∧ w.cell? ⟨b, 1, none⟩ = some (.int .i64 x.2.1) ∧ w.cell? ⟨b, 2, none⟩ = some (.int .i64 x.2.2.1) ∧ w.cell? ⟨b, 3, none⟩ = some (.string x.2.2.2) := by
  refine ⟨?_, ?_, ?_, ?_⟩ <;> (rw [Lib.cell_of_heap h]; rfl)

set_option maxHeartbeats 1000000 in
theorem isRight_q (x : Bb) (q : Bool) (w : World) (hx : Lt x) (H : Hid (rightBd x = q)) :
    Calls Try.prog 55 #[.agg #[.string x.1, .int .i64 x.2.1, .int .i64 x.2.2.1, .string x.2.2.2]] w fun e w' => e = .returned (.bool q) ∧ Below w.heap.size w w' := by
  have hba : Below w.heap.size w (w.alloc (bxB x)) := (Below.refl _ _).alloc (Nat.le_refl _) _
  obtain ⟨c0, c1, c2, c3⟩ := quad_of (heap_alloc_new w (bxB x))
  cases hv : varB x.1.data.toList with
  | false =>
    have HQ : Hid (false = q) := hide (by rw [← unhide H, rightBd, hv]; rfl)
    go_enter Try.func55, Try.ntmps55
    go_wp2_with fail
    refine (var_q x.1 false _ hx.1 (hide hv)).mono ?_
    rintro e w1 ⟨rfl, hb1⟩
    clear hv c0 c1 c2 c3
    go_wp2_with fail
    go_ret
    exact ⟨ret_bool' (unhide HQ), bt hba hb1⟩
  | true =>
    have HQ : Hid (rightVv x.2 = q) := hide (by rw [← unhide H, rightBd, hv]; rfl)
    cases hr : rightVv x.2 with
    | false =>
      have HQ' : Hid (false = q) := hide (hr.symm.trans (unhide HQ))
      go_enter Try.func55, Try.ntmps55
      go_wp2_with fail
      refine (var_q x.1 true _ hx.1 (hide hv)).mono ?_
      rintro e w1 ⟨rfl, hb1⟩
      have d1 := cell_on hb1 c1
      have d2 := cell_on hb1 c2
      have d3 := cell_on hb1 c3
      clear c0 c1 c2 c3 hv
      go_wp2_with fail
      refine (vcheck_x x.2 1 _ hx.2 (hide (chk_f hr))).mono ?_
      rintro e w2 ⟨rfl, hb2⟩
      clear d1 d2 d3 hr
      go_wp2_with fail
      go_ret
      exact ⟨ret_bool' (unhide HQ'), bt (bt hba hb1) hb2⟩
    | true =>
      have HQ' : Hid (true = q) := hide (hr.symm.trans (unhide HQ))
      go_enter Try.func55, Try.ntmps55
      go_wp2_with fail
      refine (var_q x.1 true _ hx.1 (hide hv)).mono ?_
      rintro e w1 ⟨rfl, hb1⟩
      have d1 := cell_on hb1 c1
      have d2 := cell_on hb1 c2
      have d3 := cell_on hb1 c3
      clear c0 c1 c2 c3 hv
      go_wp2_with fail
      refine (vcheck_x x.2 0 _ hx.2 (hide (chk_t hr))).mono ?_
      rintro e w2 ⟨rfl, hb2⟩
      clear d1 d2 d3 hr
      go_wp2_with fail
      go_ret
      exact ⟨ret_bool' (unhide HQ'), bt (bt hba hb1) hb2⟩
end Go.Proofs.Ytakhcifhfbiopaa.Sb

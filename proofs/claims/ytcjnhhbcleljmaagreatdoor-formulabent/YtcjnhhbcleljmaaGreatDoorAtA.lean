/- What atoms.termText, mark, push, isMark, doingAt answer. -/
import Derived.Test.YtcjnhhbcleljmaaGreatDoorBasD
import Derived.Test.YtcjnhhbcleljmaaGreatDoorLexZd
import Derived.Test.YtcjnhhbcleljmaaGreatDoorAtoZb
namespace Go.Proofs.YtcjnhhbcleljmaaGreatDoor.Sb
open Go.RowKit
open V

theorem str_of' (l : List UInt8) {s : ByteArray} (h : s.data.toList = l) : s = ⟨l.toArray⟩ := by
  refine toList_inj.1 ?_
  rw [ByteArray.toList_eq, ByteArray.toList_eq, h]
theorem right_lt {t : Bb} (h : rightT t = true) : t.1.size ≤ 24 ∧ t.2.2.2.size ≤ 60 := by
  unfold rightT at h
  split at h
  · rename_i h0
    refine ⟨by omega, ?_⟩
    unfold rightVv rightB at h
    by_cases k1 : t.2.1 = 1
    · simp only [k1] at h
      have hb : t.2.2.2.data.toList = [] := by
        have hb : t.2.2.2.data.toList = [] ∧ -4611686018427387904 ≤ t.2.2.1 ∧ t.2.2.1 ≤ 4611686018427387904 := by simpa using h
        exact hb.1
      have : t.2.2.2.data.toList.length = 0 := by rw [hb]; rfl
      rw [size_list] at this; omega
    · by_cases k2 : t.2.1 = 2
      · simp only [k2] at h
        have hb : t.2.2.1 = 0 ∧ symB t.2.2.2.data.toList = true := by simpa using h
        have := sym_len hb.2
        rw [size_list] at this; omega
      · by_cases k3 : t.2.1 = 3
        · have hb : t.2.2.1 = 0 ∧ strB t.2.2.2.data.toList = true := by simpa [k3] using h
          have h2 := hb.2
          simp only [strB, Bool.and_eq_true, decide_eq_true_eq] at h2
          have := h2.1
          rw [size_list] at this; exact this
        · simp [k1, k2, k3] at h
  · rw [Bool.and_eq_true, decide_eq_true_eq] at h
    have := var_len h.1
    rw [size_list] at this
    refine ⟨this, ?_⟩
    rw [h.2]; decide
theorem lt_right {t : Bb} (h : rightT t = true) : Lt t := by
  obtain ⟨h1, h2⟩ := right_lt h
  exact ⟨by omega, by omega⟩

set_option maxHeartbeats 1000000 in
theorem termText_any (t : Bb) (s : ByteArray) (w : World) (he : Env w) (hr : Hid (rightT t = true)) (H : Hid ((⟨(bytesT t).toArray⟩ : ByteArray) = s)) :
    Calls Tryz.prog 153 #[.agg #[.string t.1, .int .i64 t.2.1, .int .i64 t.2.2.1, .string t.2.2.2]] w fun e w' => e = .returned (.string s) ∧ Below w.heap.size w w' := by
  have hba : Below w.heap.size w (w.alloc (bxT t)) := (Below.refl _ _).alloc (Nat.le_refl _) _
  obtain ⟨c0, c1, c2, c3⟩ := quadT (heap_alloc_new w (bxT t))
  have hlt := right_lt (unhide hr)
  by_cases hz : t.1.size = 0
  · have e0 := emp_t hz
    have HS : Hid ((⟨(textL t.2.1 t.2.2.1 t.2.2.2.data.toList).toArray⟩ : ByteArray) = s) := hide (by rw [← unhide H]; unfold bytesT; rw [if_neg (by omega)])
    have HV : Hid (rightB t.2.1 t.2.2.1 t.2.2.2.data.toList = true) := hide (by have := unhide hr; rw [rightT, if_pos hz] at this; exact this)
    have hs3 : t.2.2.2.size ≤ 20000 := by omega
    clear hz H hr hlt
    go_enter Tryz.func153, Tryz.ntmps153
    go_wp2_with fail
    refine (text_ok t.2.1 t.2.2.1 t.2.2.2 _ hs3 (he.on hba) (unhide HV)).mono ?_
    rintro e w1 ⟨rfl, hb1⟩
    rw [unhide HS]
    clear c0 c1 c2 c3 e0
    go_wp2_with fail
    go_ret
    exact ⟨rfl, bt hba hb1⟩
  · have e0 := emp_f hz
    have HS : Hid (t.1 = s) := hide (by
      rw [← unhide H]
      refine str_of' _ ?_
      unfold bytesT
      rw [if_pos hz])
    have hs3 : t.1.size ≤ 20000 := by omega
    clear hz H hr hlt
    go_enter Tryz.func153, Tryz.ntmps153
    go_wp2_with fail
    refine (clone_any t.1 _ hs3).mono ?_
    rintro e w1 ⟨rfl, hb1⟩
    rw [unhide HS]
    clear c0 c1 c2 c3 e0
    go_wp2_with fail
    go_ret
    exact ⟨rfl, bt hba hb1⟩

theorem amark_any (k : Int) (s : ByteArray) (w : World) (H : Hid ((⟨#[markO k]⟩ : ByteArray) = s)) :
    Calls Tryz.prog 192 #[.int .i64 k] w fun e w' => e = .returned (.string s) ∧ w' = w := by
  have h := unhide H
  by_cases h3 : k = 3
  · subst h3
    subst h
    clear H
    go_enter Tryz.func192, Tryz.ntmps192
    go_wp2_with fail
    go_ret
    exact ⟨rfl, rfl⟩
  · by_cases h4 : k = 4
    · subst h4
      subst h
      clear H h3
      go_enter Tryz.func192, Tryz.ntmps192
      go_wp2_with fail
      go_ret
      exact ⟨rfl, rfl⟩
    · have d3 : (k == 3) = false := by rw [beq_eq_false_iff_ne]; exact h3
      have d4 : (k == 4) = false := by rw [beq_eq_false_iff_ne]; exact h4
      have HS : Hid ((⟨#[42]⟩ : ByteArray) = s) := hide (by rw [← h]; unfold markO; rw [if_neg h3, if_neg h4])
      clear h H h3 h4
      go_enter Tryz.func192, Tryz.ntmps192
      go_wp2_with fail
      go_ret
      exact ⟨by rw [← unhide HS]; rfl, rfl⟩

theorem push_any (t : Bb) (o : Oo) (w : World) (H : Hid (pushT t = o)) :
    Calls Tryz.prog 222 #[.agg #[.string t.1, .int .i64 t.2.1, .int .i64 t.2.2.1, .string t.2.2.2]] w fun e w' => e = .returned (.agg #[.int .i64 o.1, .string o.2.1, .int .i64 o.2.2.1, .int .i64 o.2.2.2.1, .string o.2.2.2.2]) ∧ Below w.heap.size w w' := by
  have hba : Below w.heap.size w (w.alloc (bxT t)) := (Below.refl _ _).alloc (Nat.le_refl _) _
  obtain ⟨c0, c1, c2, c3⟩ := quadT (heap_alloc_new w (bxT t))
  by_cases hz : t.1.size = 0
  · have e0 := emp_t hz
    have HO : Hid ((2, ⟨#[]⟩, t.2) = o) := hide (by rw [← unhide H, pushT, if_neg (by omega)])
    clear hz H
    go_enter Tryz.func222, Tryz.ntmps222
    go_wp2_with fail
    rw [← unhide HO]
    refine bodyPost_ret (v := .agg #[.int .i64 2, .string ⟨#[]⟩, .int .i64 t.2.1, .int .i64 t.2.2.1, .string t.2.2.2]) (by simp [results, Tryz.results222, go_sem]) rfl ⟨rfl, hba.alloc hba.size _⟩
  · have e0 := emp_f hz
    have HO : Hid ((1, t.1, zeroV) = o) := hide (by rw [← unhide H, pushT, if_pos hz])
    clear hz H
    go_enter Tryz.func222, Tryz.ntmps222
    go_wp2_with fail
    rw [← unhide HO]
    refine bodyPost_ret (v := .agg #[.int .i64 1, .string t.1, .int .i64 0, .int .i64 0, .string ⟨#[]⟩]) (by simp [results, Tryz.results222, go_sem]) rfl ⟨rfl, hba.alloc hba.size _⟩

/-- Is the sign at a place such a mark? -/
def isM (xs : List Tm) (p : Nat) (s : ByteArray) : Bool := match xs[p]? with
  | some x => decide (x.1 = 5 ∧ x.2.1 = s)
  | none => false
theorem isM_in {xs : List Tm} {p : Nat} (h : p < xs.length) (s : ByteArray) : isM xs p s = decide (xs[p].1 = 5 ∧ xs[p].2.1 = s) := by
  unfold isM; rw [List.getElem?_eq_getElem h]
theorem isM_out {xs : List Tm} {p : Nat} (h : ¬ p < xs.length) (s : ByteArray) : isM xs p s = false := by
  unfold isM; rw [List.getElem?_eq_none (by omega)]
theorem isM_kt (xs : List Tm) (p : Nat) (s : ByteArray) : isM xs p s = decide ((xs.map ktm)[p]? = some (5, s.data.toList)) := by
  by_cases h : p < xs.length
  · rw [isM_in h, List.getElem?_map, List.getElem?_eq_getElem h]
    simp only [Option.map_some, ktm, Option.some.injEq, Prod.mk.injEq, decide_eq_decide]
    refine and_congr_right (fun _ => ⟨fun e => by rw [e], fun e => ?_⟩)
    refine toList_inj.1 ?_
    rw [ByteArray.toList_eq, ByteArray.toList_eq, e]
  · rw [isM_out h, List.getElem?_map, List.getElem?_eq_none (by omega)]
    simp

set_option maxHeartbeats 1000000 in
set_option maxRecDepth 100000 in
theorem isMark_any (a : Option Addr) (n c : Nat) (xs : List Tm) (p : Nat) (s : ByteArray) (q : Bool) (w : World) (hl : LiesT w a n c xs) (H : Hid (isM xs p s = q)) :
    Calls Tryz.prog 220 #[.slice a n c, .int .i64 (p : Int), .string s] w fun e w' => e = .returned (.bool q) ∧ w' = w := by
  have hn := hl.len
  by_cases hp : p < xs.length
  · obtain ⟨b, o, ha, hbl, c0, c1, c2, c3⟩ := hl.row.up hp
    subst ha
    have hi := unhide H
    rw [isM_in hp] at hi
    have dl : decide ((p : Int) < (n : Int)) = true := decide_eq_true (by omega)
    have i0 : (0 : Int) ≤ (p : Int) := by omega
    have i1 : (p : Int) < (n : Int) := by omega
    have hc := hl.cap
    generalize xs[p] = x at c0 c1 c2 c3 hi
    clear H hl hn hp
    by_cases h5 : x.1 = 5
    · have d5 : (x.1 == 5) = true := by rw [h5]; rfl
      by_cases hs : x.2.1 = s
      · have ds : (x.2.1.toList == s.toList) = true := by rw [hs]; simp
        have HQ : Hid (true = q) := hide (by rw [← hi]; simp [h5, hs])
        clear hi h5 hs
        go_enter Tryz.func220, Tryz.ntmps220
        go_wp2_with fail
        go_ret
        exact ⟨ret_bool' (unhide HQ), rfl⟩
      · have ds : (x.2.1.toList == s.toList) = false := by rw [bytes_eq]; exact decide_eq_false hs
        have HQ : Hid (false = q) := hide (by rw [← hi]; simp [hs])
        clear hi h5 hs
        go_enter Tryz.func220, Tryz.ntmps220
        go_wp2_with fail
        go_ret
        exact ⟨ret_bool' (unhide HQ), rfl⟩
    · have d5 : (x.1 == 5) = false := by rw [beq_eq_false_iff_ne]; exact h5
      have HQ : Hid (false = q) := hide (by rw [← hi]; simp [h5])
      clear hi h5
      go_enter Tryz.func220, Tryz.ntmps220
      go_wp2_with fail
      go_ret
      exact ⟨ret_bool' (unhide HQ), rfl⟩
  · have HQ : Hid (false = q) := hide (by rw [← unhide H, isM_out hp])
    have dl : ¬ p < n := by omega
    clear H hl hn hp
    go_enter Tryz.func220, Tryz.ntmps220
    go_wp2_with fail
    go_ret
    exact ⟨ret_bool' (unhide HQ), rfl⟩
end Go.Proofs.YtcjnhhbcleljmaaGreatDoor.Sb

/- The walk of constablelaw01.ValNumbers: it answers true, whatever the numbers and the text. -/
import Derived.Test.YthhfahfgfcicbaaDoorOwnG
namespace Go.Proofs.YthhfahfgfcicbaaDoor
open Go.RowKit
open V

theorem cmp_kind {x y : Int} {a b : Int} (h : Lib.compareInt x y ≠ 0) : or3 (Lib.compareInt x y) a b = Lib.compareInt x y := or3_x h
theorem n_lt {a b : Int} (h : a < b) : or3 (Lib.compareInt 1 1) (Lib.compareInt a b) (Lib.compareBytes [] []) = -1 := by
  have : Lib.compareInt a b = -1 := by simp [Lib.compareInt, h]
  rw [this]; decide
theorem n_gt {a b : Int} (h : b < a) : or3 (Lib.compareInt 1 1) (Lib.compareInt a b) (Lib.compareBytes [] []) = 1 := by
  have : Lib.compareInt a b = 1 := by simp [Lib.compareInt, h]; omega
  rw [this]; decide
theorem n_eq {a : Int} : or3 (Lib.compareInt 1 1) (Lib.compareInt a a) (Lib.compareBytes [] []) = 0 := by
  have : Lib.compareInt a a = 0 := by simp [Lib.compareInt]
  rw [this]; decide
theorem n_12 {a b : Int} : or3 (Lib.compareInt 1 2) a b = -1 := by rw [or3_x (by decide)]; decide
theorem n_32 {a b : Int} : or3 (Lib.compareInt 3 2) a b = 1 := by rw [or3_x (by decide)]; decide
theorem n_in {a : Int} (h0 : -4611686018427387904 ≤ a) (h1 : a ≤ 4611686018427387904) : chk (rightB 1 a []) = 0 := by simp [rightB, chk, h0, h1]
theorem n_out {a : Int} (h : ¬ (-4611686018427387904 ≤ a ∧ a ≤ 4611686018427387904)) : chk (rightB 1 a []) = 1 := by
  have : rightB 1 a [] = false := by simp [rightB]; omega
  rw [this]; rfl

theorem below4 {w w1 : World} {o1 o2 o3 o4 : Obj} (h : Below ((((w.alloc o1).alloc o2).alloc o3).alloc o4).heap.size ((((w.alloc o1).alloc o2).alloc o3).alloc o4) w1) : Below w.heap.size w w1 :=
  bt ((((Below.refl _ _).alloc (Nat.le_refl _) _).alloc (by simp) _).alloc (by simp; omega) _) (below_box h)

set_option maxHeartbeats 4000000 in
theorem numbers_walk (a b : Int) (s : ByteArray) (w : World) (he : Env w) (c : Int) (p0 p1 : Bool) (d : Int)
    (HC : Hid (or3 (Lib.compareInt 1 1) (Lib.compareInt a b) (Lib.compareBytes [] []) = c)) (HK : Hid (chk (rightB 1 a []) = d))
    (hlt : decide (a < b) = decide (c = -1)) (hgt : decide (b < a) = decide (c = 1)) (hc3 : c = -1 ∨ c = 0 ∨ c = 1)
    (e0 : decide (-4611686018427387904 ≤ a) = p0) (e1 : decide (a ≤ 4611686018427387904) = p1) (hd : (p0 = true ∧ p1 = true ∧ d = 0) ∨ (p0 = true ∧ p1 = false ∧ d = 1) ∨ (p0 = false ∧ d = 1)) :
    Calls Tryd.prog 6 #[.int .i64 a, .int .i64 b, .string s] w fun e w' => e = .returned (.bool true) ∧ Below w.heap.size w w' := by
  have hl0 : (ByteArray.mk #[]).size ≤ maxLen := by decide
  have hcs : (c = -1 ∧ decide (a < b) = true ∧ decide (b < a) = false) ∨ (c = 0 ∧ decide (a < b) = false ∧ decide (b < a) = false) ∨ (c = 1 ∧ decide (a < b) = false ∧ decide (b < a) = true) := by
    rcases hc3 with rfl | rfl | rfl <;> simp [hlt, hgt]
  clear hlt hgt hc3
  rcases hcs with ⟨rfl, t1, t2⟩ | ⟨rfl, t1, t2⟩ | ⟨rfl, t1, t2⟩ <;> rcases hd with ⟨rfl, rfl, rfl⟩ | ⟨rfl, rfl, rfl⟩ | ⟨rfl, rfl⟩
  all_goals
    go_enter Tryd.func6, Tryd.ntmps6
    go_wp2_with (go_at_call 11; refine (compare_any 1 a 1 b ⟨#[]⟩ ⟨#[]⟩ _).mono ?_; rintro e w1 ⟨rfl, h1⟩; rw [unhide HC]; refine Hid.out ?_)
    obtain ⟨hcl1, hfr1⟩ := bcell h1
    refine Lib.hid ?_
    go_wp2_with (go_at_call 11; refine (compare_any 1 a 2 0 ⟨#[]⟩ s _).mono ?_; rintro e w2 ⟨rfl, k2⟩; rw [n_12]; refine Hid.out ?_)
    have h2 := h1.trans (k2.mono h1.size)
    clear hcl1 hfr1
    obtain ⟨hcl2, hfr2⟩ := bcell h2
    refine Lib.hid ?_
    go_wp2_with (go_at_call 11; refine (compare_any 3 0 2 0 s s _).mono ?_; rintro e w3 ⟨rfl, k3⟩; rw [n_32]; refine Hid.out ?_)
    have h3 := h2.trans (k3.mono h2.size)
    clear hcl2 hfr2
    obtain ⟨hcl3, hfr3⟩ := bcell h3
    refine Lib.hid ?_
    go_wp2_with (go_at_call 14; refine (check_any 1 a ⟨#[]⟩ _ hl0).mono ?_; rintro e w4 ⟨rfl, k4⟩; rw [unhide HK]; refine Hid.out ?_)
    have h4 := h3.trans (k4.mono h3.size)
    clear hcl3 hfr3
    refine Lib.hid ?_
    go_wp2_with (go_at_call 14; refine (check_any 1 (-4611686018427387904) ⟨#[]⟩ _ hl0).mono ?_; rintro e w5 ⟨rfl, k5⟩; rw [n_in (by omega) (by omega)]; refine Hid.out ?_)
    have h5 := h4.trans (k5.mono h4.size)
    refine Lib.hid ?_
    go_wp2_with (go_at_call 14; refine (check_any 1 4611686018427387905 ⟨#[]⟩ _ hl0).mono ?_; rintro e w6 ⟨rfl, k6⟩; rw [n_out (by omega)]; refine Hid.out ?_)
    have h6 := h5.trans (k6.mono h5.size)
    have hw6 := below4 h6
    refine Lib.hid ?_
    go_wp2_with (go_at_call 15; refine (wakes_any _ (he.on hw6)).mono ?_; rintro e w7 ⟨rfl, k7⟩)
    go_ret
    exact ⟨rfl, bt hw6 k7⟩

theorem numbers_any (a b : Int) (s : ByteArray) (w : World) (he : Env w) :
    Calls Tryd.prog 6 #[.int .i64 a, .int .i64 b, .string s] w fun e w' => e = .returned (.bool true) ∧ Below w.heap.size w w' := by
  have hd : ∃ d : Int, chk (rightB 1 a []) = d ∧ ((decide (-4611686018427387904 ≤ a) = true ∧ decide (a ≤ 4611686018427387904) = true ∧ d = 0) ∨ (decide (-4611686018427387904 ≤ a) = true ∧ decide (a ≤ 4611686018427387904) = false ∧ d = 1) ∨ (decide (-4611686018427387904 ≤ a) = false ∧ d = 1)) := by
    by_cases h0 : -4611686018427387904 ≤ a
    · by_cases h1 : a ≤ 4611686018427387904
      · exact ⟨0, n_in h0 h1, Or.inl ⟨decide_eq_true h0, decide_eq_true h1, rfl⟩⟩
      · exact ⟨1, n_out (fun h => h1 h.2), Or.inr (Or.inl ⟨decide_eq_true h0, decide_eq_false h1, rfl⟩)⟩
    · exact ⟨1, n_out (fun h => h0 h.1), Or.inr (Or.inr ⟨decide_eq_false h0, rfl⟩)⟩
  obtain ⟨d, hk, hdd⟩ := hd
  have hcc : ∃ c : Int, or3 (Lib.compareInt 1 1) (Lib.compareInt a b) (Lib.compareBytes [] []) = c ∧ decide (a < b) = decide (c = -1) ∧ decide (b < a) = decide (c = 1) ∧ (c = -1 ∨ c = 0 ∨ c = 1) := by
    by_cases h0 : a < b
    · exact ⟨-1, n_lt h0, by simp [h0], by simp; omega, Or.inl rfl⟩
    · by_cases h1 : b < a
      · exact ⟨1, n_gt h1, by simp; omega, by simp [h1], Or.inr (Or.inr rfl)⟩
      · have hab : a = b := by omega
        subst hab
        exact ⟨0, n_eq, by simp, by simp, Or.inr (Or.inl rfl)⟩
  obtain ⟨c, hc, t1, t2, t3⟩ := hcc
  exact numbers_walk a b s w he c _ _ d (hide hc) (hide hk) t1 t2 t3 rfl rfl hdd
end Go.Proofs.YthhfahfgfcicbaaDoor

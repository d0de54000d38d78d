/- The walk of constablelaw09.LexLongest: it answers true, whatever the number. -/
import Derived.Test.YtaapeleoiclplaaDoorLexO
namespace Go.Proofs.YtaapeleoiclplaaDoor
open Go.RowKit
open V

/-- The texts of the law, with how many signs each has; 0: a place where none begins. -/
def tabL : List (List UInt8 × Nat) := [([97, 45, 49], 2), ([97, 32, 45, 32, 49], 3), ([60, 61], 1), ([60, 32, 61], 2), ([45, 62], 1), ([45, 32, 62], 0), ([61, 62], 1), ([61, 61], 2), ([33, 61], 1), ([88, 49, 95, 121], 1), ([49, 97], 2), ([34, 97, 92, 34, 34], 1), ([97, 46, 98, 58, 99, 47, 100], 7), ([45, 45, 49], 2), ([45], 1), ([60, 45, 49], 2)]
def chkL (p : List UInt8 × Nat) : Bool := match lexA rightK p.1 0 with
  | .ok ts => decide (0 < p.2) && ts.length == p.2
  | .error _ => p.2 == 0
theorem tab_all : tabL.all chkL = true := by kernel_rfl
theorem tab_short : tabL.all (fun p => decide (p.1.length ≤ 20000) && decide (p.2 ≤ 100)) = true := by kernel_rfl
def valT : List Value := [Value.string ⟨#[97, 45, 49]⟩, Value.string ⟨#[97, 32, 45, 32, 49]⟩, Value.string ⟨#[60, 61]⟩, Value.string ⟨#[60, 32, 61]⟩, Value.string ⟨#[45, 62]⟩, Value.string ⟨#[45, 32, 62]⟩, Value.string ⟨#[61, 62]⟩, Value.string ⟨#[61, 61]⟩, Value.string ⟨#[33, 61]⟩, Value.string ⟨#[88, 49, 95, 121]⟩, Value.string ⟨#[49, 97]⟩, Value.string ⟨#[34, 97, 92, 34, 34]⟩, Value.string ⟨#[97, 46, 98, 58, 99, 47, 100]⟩, Value.string ⟨#[45, 45, 49]⟩, Value.string ⟨#[45]⟩, Value.string ⟨#[60, 45, 49]⟩]
def valC : List Value := [Value.int IntKind.i64 2, Value.int IntKind.i64 3, Value.int IntKind.i64 1, Value.int IntKind.i64 2, Value.int IntKind.i64 1, Value.int IntKind.i64 0, Value.int IntKind.i64 1, Value.int IntKind.i64 2, Value.int IntKind.i64 1, Value.int IntKind.i64 1, Value.int IntKind.i64 2, Value.int IntKind.i64 1, Value.int IntKind.i64 7, Value.int IntKind.i64 2, Value.int IntKind.i64 1, Value.int IntKind.i64 2]
theorem valT_at : ∀ t (h : t < 16), valT[t]'(by simp [valT]; omega) = .string ⟨(tabL[t]'(by simp [tabL]; omega)).1.toArray⟩ := by
  intro t h
  have : t = 0 ∨ t = 1 ∨ t = 2 ∨ t = 3 ∨ t = 4 ∨ t = 5 ∨ t = 6 ∨ t = 7 ∨ t = 8 ∨ t = 9 ∨ t = 10 ∨ t = 11 ∨ t = 12 ∨ t = 13 ∨ t = 14 ∨ t = 15 := by omega
  rcases this with rfl | rfl | rfl | rfl | rfl | rfl | rfl | rfl | rfl | rfl | rfl | rfl | rfl | rfl | rfl | rfl <;> rfl
theorem valC_at : ∀ t (h : t < 16), valC[t]'(by simp [valC]; omega) = .int .i64 ((tabL[t]'(by simp [tabL]; omega)).2 : Int) := by
  intro t h
  have : t = 0 ∨ t = 1 ∨ t = 2 ∨ t = 3 ∨ t = 4 ∨ t = 5 ∨ t = 6 ∨ t = 7 ∨ t = 8 ∨ t = 9 ∨ t = 10 ∨ t = 11 ∨ t = 12 ∨ t = 13 ∨ t = 14 ∨ t = 15 := by omega
  rcases this with rfl | rfl | rfl | rfl | rfl | rfl | rfl | rfl | rfl | rfl | rfl | rfl | rfl | rfl | rfl | rfl <;> rfl
theorem idx_of (h : Int) : 0 ≤ wrap64 ((IntKind.u64.wrap h).tmod 16) ∧ wrap64 ((IntKind.u64.wrap h).tmod 16) < 16 := by
  have h0 : 0 ≤ IntKind.u64.wrap h := by simp [IntKind.wrap, IntKind.bits, IntKind.signed]; omega
  generalize IntKind.u64.wrap h = m at h0
  rw [Int.tmod_eq_emod_of_nonneg h0]
  have e1 : wrap64 (m % 16) = m % 16 := by simp [wrap64]; omega
  rw [e1]
  omega

set_option maxHeartbeats 8000000 in
set_option maxRecDepth 100000 in
theorem longest_law (h : Int) (w : World) (he : Env w) :
    Calls Tryd.prog 6 #[.int .i64 h] w fun e w' => e = .returned (.bool true) ∧ Below w.heap.size w w' := by
  obtain ⟨i0, i1⟩ := idx_of h
  have hT := valT_at (wrap64 ((IntKind.u64.wrap h).tmod 16)).toNat (by omega)
  have hC := valC_at (wrap64 ((IntKind.u64.wrap h).tmod 16)).toNat (by omega)
  simp only [valT] at hT
  simp only [valC] at hC
  obtain ⟨x, n, hp⟩ : ∃ x n, tabL[(wrap64 ((IntKind.u64.wrap h).tmod 16)).toNat]'(by simp [tabL]; omega) = (x, n) := ⟨_, _, rfl⟩
  have hall := List.all_eq_true.1 tab_all (x, n) (by rw [← hp]; exact List.getElem_mem _)
  have hsh := List.all_eq_true.1 tab_short (x, n) (by rw [← hp]; exact List.getElem_mem _)
  rw [hp] at hT hC
  clear hp
  have hA : ∀ A B : Obj, Below w.heap.size w ((w.alloc A).alloc B) := fun A B => ((Below.refl _ _).alloc (Nat.le_refl _) _).alloc (by simp) _
  have hCC : Hid (((w.alloc (.cells valT.toArray 9)).alloc (.cells valC.toArray 3)).cell? ⟨w.heap.size + 1, (wrap64 ((IntKind.u64.wrap h).tmod 16)).toNat, none⟩ = some (.int .i64 n)) := by
    show _ = _
    have hb := heap_alloc_new (w.alloc (.cells valT.toArray 9)) (.cells valC.toArray 3)
    rw [show (w.alloc (.cells valT.toArray 9)).heap.size = w.heap.size + 1 by simp] at hb
    rw [Lib.cell_of_heap hb, List.getElem?_toArray, List.getElem?_eq_getElem (by simp [valC]; omega)]
    exact congrArg some hC
  have HA := hide hA
  clear hA hC
  have hx : (⟨x.toArray⟩ : ByteArray).size ≤ 20000 := by
    simp only [Bool.and_eq_true, decide_eq_true_eq] at hsh
    exact hsh.1
  have hn100 : n ≤ 100 := by
    simp only [Bool.and_eq_true, decide_eq_true_eq] at hsh
    exact hsh.2
  clear hsh
  cases hlx : lexA rightK x 0 with
  | ok ts =>
    have hn : 0 < n ∧ ts.length = n := by
      unfold chkL at hall
      simp only [hlx, Bool.and_eq_true, decide_eq_true_eq, beq_iff_eq] at hall
      exact hall
    have HX := hide hlx
    have hn0 : ((n : Int) == 0) = false := by rw [beq_eq_false_iff_ne]; omega
    clear hlx hall
    go_enter Tryd.func6, Tryd.ntmps6
    go_wp2_with fail
    have hbw := unhide HA (.cells valT.toArray 9) (.cells valC.toArray 3)
    change Calls Tryd.prog 8 _ ((w.alloc (.cells valT.toArray 9)).alloc (.cells valC.toArray 3)) _
    have hcc := unhide hCC
    generalize (w.alloc (.cells valT.toArray 9)).alloc (.cells valC.toArray 3) = W at hbw hcc
    clear HA hCC hT
    refine (lex_ok ⟨x.toArray⟩ ts _ _ hx (he.on hbw) HX (hide rfl)).mono ?_
    rintro e w1 ⟨⟨a, m, c, rfl, hl⟩, hb1⟩
    have hm : m = n := by rw [hl.len, List.length_map]; exact hn.2
    subst hm
    clear hl
    have hbx : Below w1.heap.size w1 (w1.alloc (.cells #[.int .i64 0, .int .i64 0] 25)) := (Below.refl _ _).alloc (Nat.le_refl _) _
    have hcx := cell_on hbx (cell_on hb1 hcc)
    have hbw1 := bt (bt hbw hb1) hbx
    clear hcc hn
    go_wp2_with fail
    generalize w1.alloc (.cells #[.int .i64 0, .int .i64 0] 25) = W1 at hbx hcx hbw1 ⊢
    go_wp2_with (go_at_call 12; refine (wakes_any _ (he.on hbw1)).mono ?_; rintro e w2 ⟨rfl, hb2⟩)
    go_ret
    exact ⟨rfl, bt hbw1 hb2⟩
  | error q =>
    have hn : n = 0 := by
      unfold chkL at hall
      simp only [hlx, beq_iff_eq] at hall
      exact hall
    subst hn
    have HX := hide hlx
    obtain ⟨pa, pb, hpp⟩ : ∃ pa pb, posL x q = (pa, pb) := ⟨_, _, rfl⟩
    have HP := hide hpp
    clear hlx hall hpp
    go_enter Tryd.func6, Tryd.ntmps6
    go_wp2_with fail
    have hbw := unhide HA (.cells valT.toArray 9) (.cells valC.toArray 3)
    change Calls Tryd.prog 8 _ ((w.alloc (.cells valT.toArray 9)).alloc (.cells valC.toArray 3)) _
    have hcc := unhide hCC
    generalize (w.alloc (.cells valT.toArray 9)).alloc (.cells valC.toArray 3) = W at hbw hcc
    clear HA hCC hT
    refine (lex_err ⟨x.toArray⟩ q pa pb _ hx (he.on hbw) HX HP).mono ?_
    rintro e w1 ⟨rfl, hb1⟩
    have hbx : Below w1.heap.size w1 (w1.alloc (.cells #[.int .i64 pa, .int .i64 pb] 25)) := (Below.refl _ _).alloc (Nat.le_refl _) _
    have hcx := cell_on hbx (cell_on hb1 hcc)
    have hbw1 := bt (bt hbw hb1) hbx
    clear hcc
    go_wp2_with fail
    generalize w1.alloc (.cells #[.int .i64 pa, .int .i64 pb] 25) = W1 at hbx hcx hbw1 ⊢
    go_wp2_with (go_at_call 12; refine (wakes_any _ (he.on hbw1)).mono ?_; rintro e w2 ⟨rfl, hb2⟩)
    go_ret
    exact ⟨rfl, bt hbw1 hb2⟩
end Go.Proofs.YtaapeleoiclplaaDoor

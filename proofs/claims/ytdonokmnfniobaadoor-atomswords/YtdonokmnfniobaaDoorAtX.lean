/- The walk of constablelaw10.AtomsBad: it answers true, whatever the number. -/
import Derived.Test.YtdonokmnfniobaaDoorAtW
import Derived.Test.YtdonokmnfniobaaDoorBasE
namespace Go.Proofs.YtdonokmnfniobaaDoor.Sb
open Go.RowKit
open V
open Ex (RowO LiesO flatO)

def badV : List Value := [Value.string ⟨#[]⟩, Value.string ⟨#[80]⟩, Value.string ⟨#[110, 111, 116]⟩, Value.string ⟨#[112, 40]⟩, Value.string ⟨#[112, 40, 41]⟩, Value.string ⟨#[112, 40, 88]⟩, Value.string ⟨#[112, 40, 88, 32, 89, 41]⟩, Value.string ⟨#[112, 40, 88, 44, 41]⟩, Value.string ⟨#[112, 40, 88, 44, 32, 46, 41]⟩, Value.string ⟨#[49]⟩, Value.string ⟨#[112, 40, 88, 93]⟩]
def badC : List Value := [Value.int IntKind.i64 0, Value.int IntKind.i64 0, Value.int IntKind.i64 0, Value.int IntKind.i64 2, Value.int IntKind.i64 2, Value.int IntKind.i64 3, Value.int IntKind.i64 3, Value.int IntKind.i64 4, Value.int IntKind.i64 4, Value.int IntKind.i64 0, Value.int IntKind.i64 3]
theorem badV_at : ∀ t (h : t < 11), badV[t]'(by simp [badV]; omega) = .string ⟨(badT t).toArray⟩ := by
  intro t h
  have : t = 0 ∨ t = 1 ∨ t = 2 ∨ t = 3 ∨ t = 4 ∨ t = 5 ∨ t = 6 ∨ t = 7 ∨ t = 8 ∨ t = 9 ∨ t = 10 := by omega
  rcases this with rfl | rfl | rfl | rfl | rfl | rfl | rfl | rfl | rfl | rfl | rfl <;> rfl
theorem badC_at : ∀ t (h : t < 11), badC[t]'(by simp [badC]; omega) = .int .i64 (badP t : Int) := by
  intro t h
  have : t = 0 ∨ t = 1 ∨ t = 2 ∨ t = 3 ∨ t = 4 ∨ t = 5 ∨ t = 6 ∨ t = 7 ∨ t = 8 ∨ t = 9 ∨ t = 10 := by omega
  rcases this with rfl | rfl | rfl | rfl | rfl | rfl | rfl | rfl | rfl | rfl | rfl <;> rfl
theorem bad_short : ∀ k : Fin 11, (badT k).length ≤ 100 := by decide
theorem idx11 (h : Int) : 0 ≤ wrap64 ((IntKind.u64.wrap h).tmod 11) ∧ wrap64 ((IntKind.u64.wrap h).tmod 11) < 11 := by
  have h0 : 0 ≤ IntKind.u64.wrap h := by simp [IntKind.wrap, IntKind.bits, IntKind.signed]; omega
  generalize IntKind.u64.wrap h = m at h0
  rw [Int.tmod_eq_emod_of_nonneg h0]
  have e1 : wrap64 (m % 11) = m % 11 := by simp [wrap64]; omega
  rw [e1]
  omega

set_option maxHeartbeats 8000000 in
set_option maxRecDepth 100000 in
theorem bad_law (h : Int) (w : World) (he : Env w) :
    Calls Tryd.prog 4 #[.int .i64 h] w fun e w' => e = .returned (.bool true) ∧ Below w.heap.size w w' := by
  obtain ⟨i0, i1⟩ := idx11 h
  have hT := badV_at (wrap64 ((IntKind.u64.wrap h).tmod 11)).toNat (by omega)
  have hC := badC_at (wrap64 ((IntKind.u64.wrap h).tmod 11)).toNat (by omega)
  have hsh := bad_short ⟨(wrap64 ((IntKind.u64.wrap h).tmod 11)).toNat, by omega⟩
  obtain ⟨us, u1, u2, u3⟩ := bad_text (k := (wrap64 ((IntKind.u64.wrap h).tmod 11)).toNat) (by omega)
  simp only at hsh
  generalize badT (wrap64 ((IntKind.u64.wrap h).tmod 11)).toNat = x at hT hsh u1 u3
  generalize badP (wrap64 ((IntKind.u64.wrap h).tmod 11)).toNat = n at hC u2
  have HU1 := hide u1
  have HU2 := hide u2
  have HU3 := hide u3
  have hA : ∀ A B : Obj, Below w.heap.size w ((w.alloc A).alloc B) := fun A B => ((Below.refl _ _).alloc (Nat.le_refl _) _).alloc (by simp) _
  have HCT : Hid (((w.alloc (.cells badV.toArray 9)).alloc (.cells badC.toArray 3)).cell? ⟨w.heap.size, (wrap64 ((IntKind.u64.wrap h).tmod 11)).toNat, none⟩ = some (.string ⟨x.toArray⟩)) := by
    show _ = _
    have hb := (Lib.alloc_old (w.alloc (.cells badV.toArray 9)) (.cells badC.toArray 3) w.heap.size (by simp)).trans (heap_alloc_new w (.cells badV.toArray 9))
    rw [Lib.cell_of_heap hb, List.getElem?_toArray, List.getElem?_eq_getElem (by simp [badV]; omega)]
    exact congrArg some hT
  have HCC : Hid (((w.alloc (.cells badV.toArray 9)).alloc (.cells badC.toArray 3)).cell? ⟨w.heap.size + 1, (wrap64 ((IntKind.u64.wrap h).tmod 11)).toNat, none⟩ = some (.int .i64 n)) := by
    show _ = _
    have hb := heap_alloc_new (w.alloc (.cells badV.toArray 9)) (.cells badC.toArray 3)
    rw [show (w.alloc (.cells badV.toArray 9)).heap.size = w.heap.size + 1 by simp] at hb
    rw [Lib.cell_of_heap hb, List.getElem?_toArray, List.getElem?_eq_getElem (by simp [badC]; omega)]
    exact congrArg some hC
  simp only [badV] at hT
  have HA := hide hA
  clear hA hC u1 u2 u3
  obtain ⟨z, hz⟩ : ∃ z : ByteArray, z = ⟨x.toArray⟩ := ⟨_, rfl⟩
  have hzl : z.data.toList = x := by rw [hz]
  rw [← hz] at hT HCT
  have hzs : z.size ≤ 19999 := by rw [← size_list, hzl]; omega
  rw [← hzl] at HU1 HU3
  clear hz hzl hsh
  go_enter Tryd.func4, Tryd.ntmps4
  go_wp2_with fail
  have hbw := unhide HA (.cells badV.toArray 9) (.cells badC.toArray 3)
  change Calls Tryd.prog 14 _ ((w.alloc (.cells badV.toArray 9)).alloc (.cells badC.toArray 3)) _
  have hct := unhide HCT
  have hcc := unhide HCC
  generalize (w.alloc (.cells badV.toArray 9)).alloc (.cells badC.toArray 3) = W at hbw hct hcc
  clear HA HCT HCC hT
  have heW := he.on hbw
  refine (lex_lies z us _ hzs heW HU1).mono ?_
  rintro e w1 ⟨⟨la, lc, xs, rfl, hl, HK, HZ, hu⟩, hb1⟩
  have hbx : Below w1.heap.size w1 (w1.alloc (objPos 0 0)) := (Below.refl _ _).alloc (Nat.le_refl _) _
  have hl1 := hl.on hbx
  have hct1 := cell_on hbx (cell_on hb1 hct)
  have hcc1 := cell_on hbx (cell_on hb1 hcc)
  have hbw1 := bt (bt hbw hb1) hbx
  have he1 := (heW.on hb1).on hbx
  have HR : Hid (readA (xs.map ktm) 0 = .error n) := hide (by rw [unhide HK]; exact unhide HU2)
  clear hl hb1 hct hcc hbw heW HK HU2 he
  go_wp2_with fail
  generalize w1.alloc (objPos 0 0) = W1 at hbx hl1 hct1 hcc1 hbw1 he1 ⊢
  refine (read_no la us.length lc xs 0 n _ he1 hl1 HZ hu (Nat.zero_le _) HR).mono ?_
  rintro e w2 ⟨rfl, hb2⟩
  have hby : Below w2.heap.size w2 (w2.alloc (.cells #[.string ⟨#[]⟩, .slice none 0 0] 26)) := (Below.refl _ _).alloc (Nat.le_refl _) _
  have Aa := AB.new w2 ⟨#[]⟩ (.slice none 0 0)
  have hct2 := cell_on hby (cell_on hb2 hct1)
  have hcc2 := cell_on hby (cell_on hb2 hcc1)
  have hbw2 := bt (bt hbw1 hb2) hby
  have he2 := (he1.on hb2).on hby
  clear hl1 hb2 hct1 hcc1 hbw1 he1 HR HZ hbx hby hu
  go_wp2_with fail
  have hsz : w2.heap.size < (w2.alloc (.cells #[.string ⟨#[]⟩, .slice none 0 0] 26)).heap.size := Aa.lt
  generalize w2.heap.size = p at Aa hsz ⊢
  generalize w2.alloc (.cells #[.string ⟨#[]⟩, .slice none 0 0] 26) = W2 at Aa hct2 hcc2 hbw2 he2 hsz ⊢
  refine (parse_none z us _ he2 hzs HU1 HU3).mono ?_
  rintro e w3 ⟨rfl, hb3⟩
  have hbz : Below w3.heap.size w3 (w3.alloc (.cells #[.string ⟨#[]⟩, .slice none 0 0] 26)) := (Below.refl _ _).alloc (Nat.le_refl _) _
  have A3 := (Aa.on hb3).on hbz
  have hcc3 := cell_on hbz (cell_on hb3 hcc2)
  have hbw3 := bt (bt hbw2 hb3) hbz
  have he3 := (he2.on hb3).on hbz
  obtain ⟨a0, a1⟩ : _ ∧ _ := ⟨A3.c0, A3.c1⟩
  clear Aa hct2 hcc2 hbw2 he2 hb3 hbz HU1 HU3
  go_wp2_with fail
  have F := keepAtom_any ⟨#[]⟩ ⟨#[]⟩ none none 0 0 0 0 [] [] (w3.alloc (.cells #[.string ⟨#[]⟩, .slice none 0 0] 26)) (lies_none _) (lies_none _) (by decide)
  rw [decide_eq_true (⟨rfl, rfl⟩ : (⟨#[]⟩ : ByteArray) = ⟨#[]⟩ ∧ ([] : List Bb) = [])] at F
  refine F.mono ?_
  rintro e w4 ⟨rfl, hb4⟩
  have hbw4 := bt hbw3 hb4
  have he4 := he3.on hb4
  clear a0 a1 A3 hcc3 F
  go_wp2_with fail
  refine (wakes_any _ he4).mono ?_
  rintro e w5 ⟨rfl, hb5⟩
  go_wp2_with fail
  go_ret
  exact ⟨rfl, bt hbw4 hb5⟩
end Go.Proofs.YtdonokmnfniobaaDoor.Sb

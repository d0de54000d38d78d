/- The law's own wakes: two arguments; it answers true. -/
import Derived.Test.YtbdfdpioegjfhaaDoorFactE
namespace Go.Proofs.YtbdfdpioegjfhaaDoor
open Go.RowKit
open V

/-- The cells of a row of values. -/
def flatV : List Vb → List Value
  | [] => []
  | v :: r => .int .i64 v.k :: .int .i64 v.n :: .string v.s :: flatV r
theorem flatV_get (vs : List Vb) : ∀ (i : Nat) (v : Vb), vs[i]? = some v → (flatV vs)[i * 3]? = some (.int .i64 v.k) ∧ (flatV vs)[i * 3 + 1]? = some (.int .i64 v.n) ∧ (flatV vs)[i * 3 + 2]? = some (.string v.s) := by
  induction vs with
  | nil => intro i v h; simp at h
  | cons x r ih =>
    intro i v h
    cases i with
    | zero => simp at h; subst h; simp [flatV]
    | succ i =>
      have := ih i v (by simpa using h)
      rw [show (i + 1) * 3 = i * 3 + 3 by omega]
      simpa [flatV] using this
theorem rowV_of {w : World} {b : Nat} {vs : List Vb} {T : TypeId} (h : w.heap[b]? = some (.cells (flatV vs).toArray T)) : RowV w (some ⟨b, 0, none⟩) vs := by
  refine Or.inr ⟨b, 0, rfl, (Array.getElem?_eq_some_iff.1 h).1, fun i v hv => ?_⟩
  obtain ⟨h0, h1, h2⟩ := flatV_get vs i v hv
  rw [Lib.cell_of_heap h, Lib.cell_of_heap h, Lib.cell_of_heap h]
  simpa using ⟨h0, h1, h2⟩

theorem wk_itoa1 : Lib.itoa 1 = [49] := by
  have := Lib.itoa_nonneg 1
  rw [Lib.decDigits_one (by decide)] at this
  exact this
theorem wk_textF : textF ([112], [(1, 1, []), (2, 0, [97])]) = [112, 40, 49, 44, 32, 97, 41] := by
  simp [textF, joinL, textL, wk_itoa1]
theorem wk_rightF : rightF ([112], [(1, 1, []), (2, 0, [97])]) = true := by decide
theorem wk_not : nameB [110, 111, 116] = false := by decide
theorem wk_p : nameB [112] = true := by decide
theorem wk_ab : cmpF ([97], []) ([98], []) = -1 := by decide
theorem wk_lists : lexL cmpF [] [([], [])] = -1 := by decide
theorem wk_none : rightF ([], []) = false := by decide

def wkA : Vb := ⟨1, 1, ⟨#[]⟩⟩
def wkB : Vb := ⟨2, 0, ⟨#[97]⟩⟩

set_option maxHeartbeats 1000000 in
theorem wakes_any (w : World) (he : Env w) :
    Calls Tryd.prog 19 #[] w fun e w' => e = .returned (.bool true) ∧ Below w.heap.size w w' := by
  have hb0 : Below w.heap.size w (w.alloc (.cells #[.int .i64 1, .int .i64 1, .string ⟨#[]⟩, .int .i64 2, .int .i64 0, .string ⟨#[97]⟩] 44)) := (Below.refl _ _).alloc (Nat.le_refl _) _
  have hr0 : RowV (w.alloc (.cells #[.int .i64 1, .int .i64 1, .string ⟨#[]⟩, .int .i64 2, .int .i64 0, .string ⟨#[97]⟩] 44)) (some ⟨w.heap.size, 0, none⟩) [wkA, wkB] := rowV_of (heap_alloc_new w _)
  have t0 := ftext_ok ⟨#[112]⟩ (some ⟨w.heap.size, 0, none⟩) 2 2 [wkA, wkB] _ (he.on hb0) (by decide) (by intro v hv; simp at hv; rcases hv with rfl | rfl <;> decide) hr0 (by simp) (by simp) (by decide) wk_rightF
  have e0 : textF ((⟨#[112]⟩ : ByteArray).data.toList, [wkA, wkB].map Vb.l) = [112, 40, 49, 44, 32, 97, 41] := wk_textF
  rw [e0] at t0
  go_enter Tryd.func19, Tryd.ntmps19
  go_wp2_with fail
  refine t0.mono ?_
  rintro e w1 ⟨rfl, hb1⟩
  have hw1 := bt hb0 hb1
  clear t0 hr0 hb1 hb0
  go_wp2_with fail
  refine (name_any _ _ (by decide)).mono ?_
  rintro e w2 ⟨rfl, hb2⟩
  have hw2 := bt hw1 hb2
  have e1 : nameB (⟨#[110, 111, 116]⟩ : ByteArray).data.toList = false := wk_not
  rw [e1]
  go_wp2_with fail
  refine (name_any _ _ (by decide)).mono ?_
  rintro e w3 ⟨rfl, hb3⟩
  have hw3 := bt hw2 hb3
  have e2 : nameB (⟨#[112]⟩ : ByteArray).data.toList = true := wk_p
  rw [e2]
  have t3 := fcompare_any ⟨#[97]⟩ ⟨#[98]⟩ none none 0 0 0 0 [] [] w3 (Or.inl rfl) (Or.inl rfl) (by simp) (by simp) (by simp) (by simp) (by omega)
  have e3 : cmpF ((⟨#[97]⟩ : ByteArray).data.toList, [].map Vb.l) ((⟨#[98]⟩ : ByteArray).data.toList, [].map Vb.l) = -1 := wk_ab
  rw [e3] at t3
  clear e0 e1 e2 e3 hb2 hb3
  go_wp2_with fail
  refine t3.mono ?_
  rintro e w4 ⟨rfl, hb4⟩
  have hw4 := bt hw3 hb4
  have hb5 : Below w4.heap.size w4 (w4.alloc (.cells #[.string ⟨#[]⟩, .slice none 0 0] 24)) := (Below.refl _ _).alloc (Nat.le_refl _) _
  have hr5 : RowF (w4.alloc (.cells #[.string ⟨#[]⟩, .slice none 0 0] 24)) (some ⟨w4.heap.size, 0, none⟩) [⟨⟨#[]⟩, none, 0, 0, []⟩] := by
    refine ⟨fun f hf => ?_, Or.inr ⟨_, 0, rfl, by simp, fun i f hf => ?_⟩⟩
    · simp at hf; subst hf; exact ⟨Or.inl rfl, rfl⟩
    · cases i with
      | zero => simp at hf; subst hf; exact ⟨by rw [Lib.cell_of_heap (heap_alloc_new w4 _)]; rfl, by rw [Lib.cell_of_heap (heap_alloc_new w4 _)]; rfl⟩
      | succ i => simp at hf
  have t5 := lists_any none (some ⟨w4.heap.size, 0, none⟩) 0 1 0 1 [] [⟨⟨#[]⟩, none, 0, 0, []⟩] _ ⟨by simp, Or.inl rfl⟩ hr5 rfl rfl (by omega) (by simp)
  have e5 : lexL cmpF ([].map Fb.l) ([(⟨⟨#[]⟩, none, 0, 0, []⟩ : Fb)].map Fb.l) = -1 := wk_lists
  rw [e5] at t5
  clear e5 hr5 t3
  go_wp2_with fail
  refine t5.mono ?_
  rintro e w6 ⟨rfl, hb6⟩
  have hw6 := bt (bt hw4 hb5) hb6
  have t6 := fcheck_any ⟨#[]⟩ none 0 0 [] w6 (by decide) (by simp) (Or.inl rfl) (by simp) (by simp) (by omega)
  have e6 : chk (rightF ((⟨#[]⟩ : ByteArray).data.toList, [].map Vb.l)) = 1 := chk_f wk_none
  rw [e6] at t6
  clear e6 t5 hb4 hb5 hb6
  go_wp2_with fail
  refine t6.mono ?_
  rintro e w7 ⟨rfl, hb7⟩
  go_wp2_with fail
  go_ret
  exact ⟨rfl, bt hw6 hb7⟩
end Go.Proofs.YtbdfdpioegjfhaaDoor

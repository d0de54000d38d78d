/- What the laws' wakes answers: true. -/
import Derived.Test.YtmnonjacomabbaaSetK
import Derived.Test.YtmnonjacomabbaaSetL
namespace Go.Proofs.Ytmnonjacomabbaa
open Go.RowKit
open V

/-- A fact of one letter. -/
def fbC (c : UInt8) : Fb := ⟨⟨#[c]⟩, none, 0, 0, []⟩
theorem fbC_in (c : UInt8) (w : World) : (fbC c).In w := ⟨Or.inl rfl, rfl⟩
theorem fbC_light (c : UInt8) : (fbC c).Light := ⟨by show (1 : Nat) ≤ 200; omega, by show (0 : Nat) ≤ 20; omega, by intro v hv; simp [fbC] at hv⟩

theorem Told.cap {B : Nat} {w : World} {a : Option Addr} {n cap : Nat} {gs : List Fb} {l : List Fc} (h : Told B w a n cap gs l) : n ≤ cap := by
  rcases h.made.own.2 with ⟨hv, h0⟩ | ⟨g, cap', cur, hv, _, _, hc, _⟩
  · omega
  · simp only [Value.slice.injEq] at hv
    obtain ⟨_, _, rfl⟩ := hv
    exact hc
theorem Told.len1k {B : Nat} {w : World} {a : Option Addr} {n cap : Nat} {gs : List Fb} {l : List Fc} (h : Told B w a n cap gs l) : ∀ f ∈ gs, f.len ≤ 1000 := fun f hf => by have := (h.light f hf).len; omega

theorem wk1 : ([fbC 98, fbC 97, fbC 98].map Fb.l).all rightF = true := by decide
theorem wk2 : ofL cmpF ([fbC 98, fbC 97, fbC 98].map Fb.l) = [([97], []), ([98], [])] := by decide
theorem wk3 : setB [([97], []), ([98], [])] = true := by decide
theorem wk4 : putL cmpF [([97], []), ([98], [])] (fbC 99).l = [([97], []), ([98], []), ([99], [])] := by decide
theorem wk5 : setB [([97], []), ([98], []), ([99], [])] = true := by decide
theorem wk6 : dropL [([97], []), ([98], []), ([99], [])] (fbC 97).l = [([98], []), ([99], [])] := by decide
theorem wk7 : setB ([fbC 98, fbC 97].map Fb.l) = false := by decide
theorem wk8 : rightF (fbC 99).l = true := by decide
theorem wk9 : rightF (fbC 97).l = true := by decide
theorem set_rise {l : List Fc} (h : setB l = true) : Rise cmpF l := by
  simp only [setB, Bool.and_eq_true] at h
  exact rise_of_B ord_fact h.2

theorem row_lit (w : World) (fs : List Fb) (hin : ∀ f ∈ fs, f.In w) : RowF (w.alloc (.cells (flatF fs).toArray 25)) (some ⟨w.heap.size, 0, none⟩) fs :=
  rowF_of (T := 25) (heap_alloc_new w _) (fun f hf => in_alloc w _ f (hin f hf))

set_option maxHeartbeats 4000000 in
theorem wakes_any (w : World) :
    Calls Try.prog 25 #[] w fun e w' => e = .returned (.bool true) ∧ Below w.heap.size w w' := by
  have h1 := of_ok (some ⟨w.heap.size, 0, none⟩) 3 3 [fbC 98, fbC 97, fbC 98] _ (row_lit w [fbC 98, fbC 97, fbC 98] (by intro f hf; simp at hf; rcases hf with rfl | rfl | rfl <;> exact fbC_in _ _)) rfl (by omega) (by intro f hf; simp at hf; rcases hf with rfl | rfl | rfl <;> exact fbC_light _) (by intro h; cases h) (hide wk1)
  rw [wk2] at h1
  go_enter Try.func25, Try.ntmps25
  go_wp2_with fail
  refine h1.mono ?_
  rintro e w1 ⟨a1, n1, c1, gs, rfl, hT, hb1⟩
  clear h1
  obtain rfl : n1 = 2 := hT.lenl
  have hw1 := below_box hb1
  have h2 := put_ok a1 2 c1 gs (fbC 99) 0 0 w1 hT.row (fbC_in _ _) (by rw [hT.len]; omega) (by rw [← hT.len]; omega) (by omega) hT.cap hT.light (fbC_light _) (hide (by rw [hT.eq]; exact chk_t wk3)) (hide (chk_t wk8)) (hide rfl) (hide (by rw [hT.eq]; exact set_rise wk3))
  rw [hT.eq, wk4] at h2
  have HT := hide hT
  clear hT hb1
  go_wp2_with fail
  refine h2.mono ?_
  rintro e w2 ⟨a2, n2, c2, ms, rfl, hT2, hb2⟩
  clear h2
  obtain rfl : n2 = 3 := hT2.lenl
  have hw2 := bt hw1 hb2
  have h3 := drop_ok a2 3 c2 ms (fbC 97) 0 0 w2 hT2.row (fbC_in _ _) (by rw [hT2.len]; omega) (by rw [← hT2.len]; omega) (by omega) hT2.cap hT2.light (fbC_light _) (hide (by rw [hT2.eq]; exact chk_t wk5)) (hide (chk_t wk9)) (hide rfl) (hide (by rw [hT2.eq]; exact set_rise wk5))
  rw [hT2.eq, wk6] at h3
  have HT1 := hide ((unhide HT).on hb2)
  have HT2 := hide hT2
  clear hT2 HT hb2
  go_wp2_with fail
  refine h3.mono ?_
  rintro e w3 ⟨a3, n3, c3, ds, rfl, hT3, hb3⟩
  clear h3
  obtain rfl : n3 = 2 := hT3.lenl
  have hw3 := bt hw2 hb3
  have T1 := (unhide HT1).on hb3
  have T2 := (unhide HT2).on hb3
  have hlen1 : 0 < gs.length := by have := T1.len; omega
  obtain ⟨b, o, ha, hbl, c0, c1', hin⟩ := T1.row.up hlen1
  have hname : gs[0].n = ⟨#[97]⟩ := by
    have := congrArg (fun l => l[0]?) T1.eq
    simp [hlen1, Fb.l] at this
    rw [← Lib.mk_data gs[0].n, this.1]
  rw [hname] at c0
  simp only [Nat.zero_mul, Nat.add_zero] at c0
  have h4 := has_any a2 3 c2 ms (fbC 99) true w3 T2.row (fbC_in _ _) (by rw [T2.len]; omega) (by rw [← T2.len]; omega) (by omega) T2.len1k (hide (by rw [T2.eq]; decide))
  have h5 := fun W hb => has_any a3 2 c3 ds (fbC 97) false W ((hT3.on hb).row) (fbC_in _ _) (by rw [hT3.len]; omega) (by rw [← hT3.len]; omega) (by omega) hT3.len1k (hide (by rw [hT3.eq]; decide))
  clear T1 T2 HT1 HT2 hin c1' hb3 hname hlen1
  subst ha
  go_wp2_with fail
  refine h4.mono ?_
  rintro e w4 ⟨rfl, hb4⟩
  have h5' := h5 w4 hb4
  have hw4 := bt hw3 hb4
  clear h4 h5 c0
  go_wp2_with fail
  refine h5'.mono ?_
  rintro e w5 ⟨rfl, hb5⟩
  have hw5 := bt hw4 hb5
  have h6 := scheck_x (some ⟨w5.heap.size, 0, none⟩) 2 2 [fbC 98, fbC 97] 1 _ (row_lit w5 [fbC 98, fbC 97] (by intro f hf; simp at hf; rcases hf with rfl | rfl <;> exact fbC_in _ _)) (Nat.le_refl _) (Nat.le_refl _) (by omega) (by intro f hf; simp at hf; rcases hf with rfl | rfl <;> exact fbC_light _) (hide (chk_f wk7))
  clear h5' hT3
  go_wp2_with fail
  refine h6.mono ?_
  rintro e w6 ⟨rfl, hb6⟩
  have hw6 := bt hw5 (below_box hb6)
  clear h6 hb6
  go_wp2_with fail
  go_ret
  exact ⟨rfl, hw6⟩
end Go.Proofs.Ytmnonjacomabbaa

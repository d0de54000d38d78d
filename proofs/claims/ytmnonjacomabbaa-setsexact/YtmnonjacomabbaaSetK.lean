/- What sets.Put answers where all is right. -/
import Derived.Test.YtmnonjacomabbaaSetJ
namespace Go.Proofs.Ytmnonjacomabbaa
open Go.RowKit
open V

set_option maxHeartbeats 4000000 in
theorem put_ok (a : Option Addr) (len cap : Nat) (fs : List Fb) (f : Fb) (x y : Int) (w : World) (hrow : RowF w a fs) (hf : f.In w) (hl : len ≤ fs.length) (hl' : fs.length ≤ len) (h1k : len ≤ 400) (hcap : len ≤ cap) (hL : ∀ f ∈ fs, f.Light) (lf : f.Light) (HX : Hid (chk (setB (fs.map Fb.l)) = x)) (HY : Hid (chk (rightF f.l) = y)) (HO : Hid (or2 x y = 0)) (hR : Hid (Rise cmpF (fs.map Fb.l))) :
    Calls Try.prog 12 #[.slice a len cap, .agg #[.string f.n, .slice f.a f.len f.cap]] w fun e w' => ∃ (q : Option Addr) (n c : Nat) (hs : List Fb), e = .returned (.tuple #[.slice q n c, .int .i64 0]) ∧ Told w.heap.size w' q n c hs (putL cmpF (fs.map Fb.l) f.l) ∧ Below w.heap.size w w' := by
  have hba : Below w.heap.size w (w.alloc (bxO f)) := (Below.refl _ _).alloc (Nat.le_refl _) _
  have h1k' : len ≤ 1000 := by omega
  obtain ⟨k0, k1⟩ := pair_of (heap_alloc_new w (bxO f))
  go_enter Try.func12, Try.ntmps12
  go_upto_region 1 with fail
  go_cut [6] from 9 (fun s wx => s = .int .i64 0 ∧ Below (w.alloc (bxO f)).heap.size (w.alloc (bxO f)) wx)
  case first =>
    have hr0 := hrow.on hba
    have hf0 := hf.on hba
    have r1 := rowF_alloc
    have r2 := in_alloc
    have r3 := rowF_new
    have r4 := in_drew
    have r5 := rowF_drew
    go_region_with (first
      | (go_at_call 21; refine (kept (scheck_x a len cap fs x _ (by simp [*]) hl hl' h1k' hL HX)).mono ?_; rintro e w1 ⟨rfl, hb1, hk1, hi1, hr1⟩)
      | (go_at_call 29; refine (kept (eachRight_one _ f y _ (by simp [*]) lf HY)).mono ?_; rintro e w2 ⟨rfl, hb2, hk2, hi2, hr2⟩)
      | (go_at_call 31; refine (orE_z x y 0 _ _ (by simp) HO).mono ?_; rintro e w3 ⟨rfl, hw⟩; subst hw))
    all_goals clear hr1 hr2 hi1 hi2 hk1 hk2 r1 r2 r3 r4 r5 hr0 hf0 k0 k1
    all_goals go_wp2_with fail
    all_goals go_meet
    all_goals first | exact ⟨rfl, fin1 hb1 hb2⟩ | exact ⟨rfl, fin2 hb1 hb2⟩
  case rest =>
    obtain ⟨rfl, hbx⟩ := hcut
    have hbw := bt hba hbx
    have j0 := cell_on hbx k0
    have j1 := cell_on hbx k1
    have hlt := cell_lt j0
    have hard := around_any a len cap fs f wc (hrow.on hbw) (hf.on hbw) (by omega) (by omega) hcap (fun g hg => by have := (hL g hg).len; omega) (unhide hR)
    clear k0 k1
    go_wp2_with fail
    refine hard.mono ?_
    rintro e w3 ⟨⟨a1, a2, p, d, r, c1, c2, rfl, hA1, hA2, hp, hr, hput, hdrop⟩, hb3⟩
    have m0 := cell_on hb3 j0
    have m1 := cell_on hb3 j1
    have hlt3 := cell_lt m0
    have hw3 := bt hbw hb3
    have hA0 := rowF_new w3 w3.heap.size f rfl (hf.on hw3)
    have hpl : p ≤ len := by rw [hp]; simp; omega
    have hrl : r ≤ len := by rw [hr]; simp; omega
    have hR3 := rowL_three (w := w3.alloc (bxO f)) ⟨a1, p, c1, fs.take p⟩ ⟨some ⟨w3.heap.size, 0, none⟩, 1, 1, [f]⟩ ⟨a2, r, c2, fs.drop d⟩ ⟨rowF_alloc _ _ _ _ hA1, hp, fun g hg => hL g (List.mem_of_mem_take hg)⟩ ⟨hA0, rfl, by simpa using lf⟩ ⟨rowF_alloc _ _ _ _ hA2, hr, fun g hg => hL g (List.mem_of_mem_drop hg)⟩
    have hs3 : (w3.alloc (bxO f)).heap.size = w3.heap.size + 1 := by simp
    rw [hs3] at hR3
    have hj := join_any (w3.heap.size + 1) 3 _ _ hR3 (Nat.le_refl _) (Nat.le_refl _) (Nat.le_refl _) (by simp [sumL]; omega)
    have HG : Hid (∀ hs : List Fb, hs.map Fb.c = (allL [⟨a1, p, c1, fs.take p⟩, ⟨some ⟨w3.heap.size, 0, none⟩, 1, 1, [f]⟩, ⟨a2, r, c2, fs.drop d⟩]).map Fb.c → (∀ h ∈ hs, h.len = h.vs.length) → (∀ h ∈ hs, h.Light) ∧ hs.map Fb.l = putL cmpF (fs.map Fb.l) f.l) := by
      refine hide (fun hs hc hlen => ?_)
      refine ⟨lights_of_c hc (fun g hg => ?_) hlen, ?_⟩
      · simp only [allL, List.flatMap_cons, List.flatMap_nil, List.append_nil, List.mem_append, List.mem_singleton] at hg
        rcases hg with hg | rfl | hg
        · exact ⟨hL g (List.mem_of_mem_take hg), (hrow.1 g (List.mem_of_mem_take hg)).len⟩
        · exact ⟨lf, hf.len⟩
        · exact ⟨hL g (List.mem_of_mem_drop hg), (hrow.1 g (List.mem_of_mem_drop hg)).len⟩
      · rw [map_l_of_c hc, ← hput]
        simp [allL]
    clear hard hA1 hA2 hp hr hput hdrop hA0 hR3 hs3 j0 j1
    go_wp2_with fail
    refine hj.mono ?_
    rintro e w4 ⟨a4, n4, c4, hs, rfl, hM, HC, hb5⟩
    obtain ⟨hl4, he4⟩ := unhide HG hs (unhide HC) (fun h hh => (hM.new h hh).len)
    have hM' := hM.mono (B' := w.heap.size) (by have := hw3.size; simp; omega)
    have hb6 := bt hw3 (below_box (below_box hb5))
    clear HG hj HC hb5 hM m0 m1
    go_wp2_with fail
    go_ret2
    exact ⟨a4, n4, c4, hs, rfl, ⟨hM', hl4, he4⟩, hb6⟩
end Go.Proofs.Ytmnonjacomabbaa

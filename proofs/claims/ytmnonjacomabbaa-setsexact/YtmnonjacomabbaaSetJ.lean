/- What sets.Put and sets.Drop answer. -/
import Derived.Test.YtmnonjacomabbaaSetH
import Derived.Test.YtmnonjacomabbaaSetI
import Derived.Deep.RegionWith
namespace Go.Proofs.Ytmnonjacomabbaa
open Go.RowKit
open V

theorem rowF_alloc (W : World) (o : Obj) (a : Option Addr) (fs : List Fb) (h : RowF W a fs) : RowF (W.alloc o) a fs := h.on ((Below.refl _ _).alloc (Nat.le_refl _) _)
theorem in_alloc (W : World) (o : Obj) (f : Fb) (h : f.In W) : f.In (W.alloc o) := h.on ((Below.refl _ _).alloc (Nat.le_refl _) _)
theorem rowF_new (W : World) (b : Nat) (f : Fb) (hb : W.heap.size = b) (h : f.In W) : RowF (W.alloc (bxO f)) (some ⟨b, 0, none⟩) [f] := by
  subst hb
  refine ⟨fun g hg => ?_, Or.inr ⟨W.heap.size, 0, rfl, by simp, fun i g hg => ?_⟩⟩
  · rw [List.mem_singleton.1 hg]; exact in_alloc W _ f h
  · match i, hg with
    | 0, hg =>
      simp at hg
      subst hg
      obtain ⟨c0, c1⟩ := pair_of (heap_alloc_new W (bxO f))
      exact ⟨by simp, by simp⟩

theorem scheck_x (a : Option Addr) (len cap : Nat) (fs : List Fb) (x : Int) (w : World) (hrow : RowF w a fs) (hl : len ≤ fs.length) (hl' : fs.length ≤ len) (h1k : len ≤ 1000) (hL : ∀ f ∈ fs, f.Light) (H : Hid (chk (setB (fs.map Fb.l)) = x)) :
    Calls Try.prog 21 #[.slice a len cap] w fun e w' => e = .returned (.int .i64 x) ∧ Below w.heap.size w w' := by
  have := scheck_any a len cap fs w hrow hl hl' h1k hL
  rwa [unhide H] at this
theorem eachRight_one (b : Nat) (f : Fb) (y : Int) (w : World) (hrow : RowF w (some ⟨b, 0, none⟩) [f]) (hL : f.Light) (H : Hid (chk (rightF f.l) = y)) :
    Calls Try.prog 29 #[.slice (some ⟨b, 0, none⟩) 1 1] w fun e w' => e = .returned (.int .i64 y) ∧ Below w.heap.size w w' := by
  have := eachRight_any (some ⟨b, 0, none⟩) 1 1 [f] w hrow (Nat.le_refl _) (Nat.le_refl _) (by omega) (by simpa using hL)
  simp only [List.map_cons, List.map_nil, List.all_cons, List.all_nil, Bool.and_true] at this
  rwa [unhide H] at this

theorem orE_z (x y z : Int) (b : Nat) (W : World) (hb : W.heap.size = b) (H : Hid (or2 x y = z)) :
    Calls Try.prog 31 #[.slice (some ⟨b, 0, none⟩) 2 2] (W.alloc (.cells #[.int .i64 x, .int .i64 y] 29)) fun e w' => e = .returned (.int .i64 z) ∧ w' = (W.alloc (.cells #[.int .i64 x, .int .i64 y] 29)) := by
  have := orE_at x y b W hb
  rwa [unhide H] at this
theorem fin1 {W w1 w2 : World} {o o2 : Obj} (h1 : Below W.drew.heap.size W.drew w1) (h2 : Below (w1.alloc o).heap.size (w1.alloc o) w2) : Below W.heap.size W (w2.alloc o2) := by
  have a : Below W.heap.size W w1 := bt ((Below.refl W.heap.size W).drew) h1
  have b : Below W.heap.size W w2 := bt a (below_box h2)
  exact b.alloc b.size _
theorem fin2 {W w1 w2 : World} {o o2 : Obj} (h1 : Below (W.drew.alloc o).heap.size (W.drew.alloc o) w1) (h2 : Below w1.heap.size w1 w2) : Below W.heap.size W (w2.alloc o2) := by
  have a : Below W.heap.size W w1 := bt ((Below.refl W.heap.size W).drew) (below_box h1)
  have b : Below W.heap.size W w2 := bt a h2
  exact b.alloc b.size _

set_option maxHeartbeats 4000000 in
theorem put_bad (a : Option Addr) (len cap : Nat) (fs : List Fb) (f : Fb) (x y : Int) (w : World) (hrow : RowF w a fs) (hf : f.In w) (hl : len ≤ fs.length) (hl' : fs.length ≤ len) (h1k : len ≤ 1000) (hL : ∀ f ∈ fs, f.Light) (lf : f.Light) (HX : Hid (chk (setB (fs.map Fb.l)) = x)) (HY : Hid (chk (rightF f.l) = y)) (HO : Hid (or2 x y = 1)) :
    Calls Try.prog 12 #[.slice a len cap, .agg #[.string f.n, .slice f.a f.len f.cap]] w fun e w' => e = .returned (.tuple #[.slice none 0 0, .int .i64 1]) ∧ Below w.heap.size w w' := by
  have hba : Below w.heap.size w (w.alloc (bxO f)) := (Below.refl _ _).alloc (Nat.le_refl _) _
  obtain ⟨k0, k1⟩ := pair_of (heap_alloc_new w (bxO f))
  go_enter Try.func12, Try.ntmps12
  go_upto_region 1 with fail
  go_cut [6] from 9 (fun s wx => s = .int .i64 1 ∧ Below (w.alloc (bxO f)).heap.size (w.alloc (bxO f)) wx)
  case first =>
    have hr0 := hrow.on hba
    have hf0 := hf.on hba
    have r1 := rowF_alloc
    have r2 := in_alloc
    have r3 := rowF_new
    have r4 := in_drew
    have r5 := rowF_drew
    go_region_with (first
      | (go_at_call 21; refine (kept (scheck_x a len cap fs x _ (by simp [*]) hl hl' h1k hL HX)).mono ?_; rintro e w1 ⟨rfl, hb1, hk1, hi1, hr1⟩)
      | (go_at_call 29; refine (kept (eachRight_one _ f y _ (by simp [*]) lf HY)).mono ?_; rintro e w2 ⟨rfl, hb2, hk2, hi2, hr2⟩)
      | (go_at_call 31; refine (orE_z x y 1 _ _ (by simp) HO).mono ?_; rintro e w3 ⟨rfl, hw⟩; subst hw))
    all_goals clear hr1 hr2 hi1 hi2 hk1 hk2 r1 r2 r3 r4 r5 hr0 hf0 k0 k1
    all_goals go_wp2_with fail
    all_goals go_meet
    all_goals first | exact ⟨rfl, fin1 hb1 hb2⟩ | exact ⟨rfl, fin2 hb1 hb2⟩
  case rest =>
    obtain ⟨rfl, hbx⟩ := hcut
    have hbw := bt hba hbx
    clear k0 k1
    go_wp2_with fail
    go_ret2
    exact ⟨rfl, hbw⟩

set_option maxHeartbeats 4000000 in
theorem drop_bad (a : Option Addr) (len cap : Nat) (fs : List Fb) (f : Fb) (x y : Int) (w : World) (hrow : RowF w a fs) (hf : f.In w) (hl : len ≤ fs.length) (hl' : fs.length ≤ len) (h1k : len ≤ 1000) (hL : ∀ f ∈ fs, f.Light) (lf : f.Light) (HX : Hid (chk (setB (fs.map Fb.l)) = x)) (HY : Hid (chk (rightF f.l) = y)) (HO : Hid (or2 x y = 1)) :
    Calls Try.prog 13 #[.slice a len cap, .agg #[.string f.n, .slice f.a f.len f.cap]] w fun e w' => e = .returned (.tuple #[.slice none 0 0, .int .i64 1]) ∧ Below w.heap.size w w' := by
  have hba : Below w.heap.size w (w.alloc (bxO f)) := (Below.refl _ _).alloc (Nat.le_refl _) _
  obtain ⟨k0, k1⟩ := pair_of (heap_alloc_new w (bxO f))
  go_enter Try.func13, Try.ntmps13
  go_upto_region 1 with fail
  go_cut [6] from 9 (fun s wx => s = .int .i64 1 ∧ Below (w.alloc (bxO f)).heap.size (w.alloc (bxO f)) wx)
  case first =>
    have hr0 := hrow.on hba
    have hf0 := hf.on hba
    have r1 := rowF_alloc
    have r2 := in_alloc
    have r3 := rowF_new
    have r4 := in_drew
    have r5 := rowF_drew
    go_region_with (first
      | (go_at_call 21; refine (kept (scheck_x a len cap fs x _ (by simp [*]) hl hl' h1k hL HX)).mono ?_; rintro e w1 ⟨rfl, hb1, hk1, hi1, hr1⟩)
      | (go_at_call 29; refine (kept (eachRight_one _ f y _ (by simp [*]) lf HY)).mono ?_; rintro e w2 ⟨rfl, hb2, hk2, hi2, hr2⟩)
      | (go_at_call 31; refine (orE_z x y 1 _ _ (by simp) HO).mono ?_; rintro e w3 ⟨rfl, hw⟩; subst hw))
    all_goals clear hr1 hr2 hi1 hi2 hk1 hk2 r1 r2 r3 r4 r5 hr0 hf0 k0 k1
    all_goals go_wp2_with fail
    all_goals go_meet
    all_goals first | exact ⟨rfl, fin1 hb1 hb2⟩ | exact ⟨rfl, fin2 hb1 hb2⟩
  case rest =>
    obtain ⟨rfl, hbx⟩ := hcut
    have hbw := bt hba hbx
    clear k0 k1
    go_wp2_with fail
    go_ret2
    exact ⟨rfl, hbw⟩
end Go.Proofs.Ytmnonjacomabbaa

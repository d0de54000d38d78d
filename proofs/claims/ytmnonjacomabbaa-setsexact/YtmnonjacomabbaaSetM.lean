/- What the document's own Has, Set and the law's Facts, TwinFacts answer. -/
import Derived.Test.YtmnonjacomabbaaSetC
import Derived.Test.YtmnonjacomabbaaSetD
namespace Go.Proofs.Ytmnonjacomabbaa
open Go.RowKit
open V

/-- constablekeep.Fact, the answer a letter, with what it leaves as it was. -/
theorem keepFact_q (f g : Fb) (q : Bool) (w : World) (hf : f.In w) (hg : g.In w) (h20 : f.len ≤ 1000) (H : Hid (decide (f.l = g.l) = q)) :
    Calls Try.prog 26 #[.agg #[.string f.n, .slice f.a f.len f.cap], .agg #[.string g.n, .slice g.a g.len g.cap]] w fun e w' => e = .returned (.bool q) ∧ Below w.heap.size w w' ∧ (∀ b o v, w.cell? ⟨b, o, none⟩ = some v → w'.cell? ⟨b, o, none⟩ = some v) ∧ (∀ f : Fb, f.In w → f.In w') := by
  refine (keepFact_fb f g w hf hg h20).mono ?_
  rintro e w' ⟨rfl, hb⟩
  rw [unhide H]
  exact ⟨rfl, hb, fun b o v h => cell_on hb h, fun f h => h.on hb⟩

set_option maxHeartbeats 2000000 in
theorem refHas_any (a : Option Addr) (len cap : Nat) (fs : List Fb) (f : Fb) (q : Bool) (w : World) (hrow : RowF w a fs) (hf : f.In w) (hl : len ≤ fs.length) (hl' : fs.length ≤ len) (h1k : len ≤ 1000) (hL : ∀ f ∈ fs, f.len ≤ 1000) (H : Hid (decide (f.l ∈ fs.map Fb.l) = q)) :
    Calls Try.prog 16 #[.slice a len cap, .agg #[.string f.n, .slice f.a f.len f.cap]] w fun e w' => e = .returned (.bool q) ∧ Below w.heap.size w w' := by
  have hdr := in_drew
  have hba : Below w.heap.size w (w.alloc (bxO f)) := (Below.refl _ _).alloc (Nat.le_refl _) _
  obtain ⟨k0, k1⟩ := pair_of (heap_alloc_new w (bxO f))
  go_enter Try.func16, Try.ntmps16
  go_wp2_with fail
  go_loopw [5] (fun i wr => ∃ k : Nat, k ≤ len ∧ i = .int .i64 k ∧ Hid (∀ t (h : t < fs.length), t < k → fs[t].l ≠ f.l) ∧ Below (w.alloc (bxO f)).heap.size (w.alloc (bxO f)) wr) (fun i _ => len - (intOf i).toNat)
  case atStart => exact ⟨0, Nat.zero_le _, rfl, hide (by intro t _ h; omega), Below.refl _ _⟩
  case round =>
    obtain ⟨k, hk, rfl, HK, hbw⟩ := hrel
    have hww := bt hba hbw
    by_cases hlt : k < len
    · obtain ⟨b, o, ha, hbl, c0, c1, hin⟩ := (hrow.on hww).up (show k < fs.length by omega)
      subst ha
      have m0 := cell_on hbw k0
      have m1 := cell_on hbw k1
      have lf := hL fs[k] (List.getElem_mem (by omega))
      have hfin := hf.on hww
      by_cases hz : fs[k].l = f.l
      · have HQ : Hid (decide (fs[k].l = f.l) = true) := hide (by simp [hz])
        have HE : Hid (q = true) := hide (by rw [← unhide H]; simp only [decide_eq_true_eq]; rw [← hz]; exact List.mem_map.2 ⟨fs[k], List.getElem_mem (by omega), rfl⟩)
        clear hz
        generalize fs[k] = g at c0 c1 hin lf HQ
        go_wp2_with fail
        go_region_held3 (fun w' => w'.cell? ⟨b, o + k * 2, none⟩ = some (.string g.n) ∧ w'.cell? ⟨b, o + k * 2 + 1, none⟩ = some (.slice g.a g.len g.cap) ∧ w'.cell? ⟨w.heap.size, 0, none⟩ = some (.string f.n) ∧ w'.cell? ⟨w.heap.size, 1, none⟩ = some (.slice f.a f.len f.cap) ∧ g.In w' ∧ f.In w') (go_keep) (first | (go_at_call 26; refine (keepFact_q _ _ true _ (by simp [*]) (by simp [*]) lf HQ).mono ?_; rintro e w' ⟨rfl, hb', hk', hi⟩))
        have hbw' := bt hww.drew hb'
        clear c0 c1 m0 m1 hi hk' hin hfin
        go_wp2_with fail
        go_ret
        exact ⟨ret_bool' (unhide HE).symm, hbw'⟩
      · have HQ : Hid (decide (fs[k].l = f.l) = false) := hide (by simp [hz])
        have HN : Hid (∀ t (h : t < fs.length), t < k + 1 → fs[t].l ≠ f.l) := by
          refine hide (fun t h ht => ?_)
          by_cases e : t < k
          · exact unhide HK t h e
          · have : t = k := by omega
            subst this; exact hz
        clear hz
        generalize fs[k] = g at c0 c1 hin lf HQ
        go_wp2_with fail
        go_region_held3 (fun w' => w'.cell? ⟨b, o + k * 2, none⟩ = some (.string g.n) ∧ w'.cell? ⟨b, o + k * 2 + 1, none⟩ = some (.slice g.a g.len g.cap) ∧ w'.cell? ⟨w.heap.size, 0, none⟩ = some (.string f.n) ∧ w'.cell? ⟨w.heap.size, 1, none⟩ = some (.slice f.a f.len f.cap) ∧ g.In w' ∧ f.In w') (go_keep) (first | (go_at_call 26; refine (keepFact_q _ _ false _ (by simp [*]) (by simp [*]) lf HQ).mono ?_; rintro e w' ⟨rfl, hb', hk', hi⟩))
        have hbw' : Below (w.alloc (bxO f)).heap.size (w.alloc (bxO f)) w' := hbw.drew.trans (hb'.mono hbw.size)
        clear c0 c1 m0 m1 hi hk' hin hfin
        go_wp2_with fail
        go_roundw
        case rel => exact ⟨k + 1, by omega, by go_num, HN, hbw'⟩
        case measure => simp [intOf]; omega
    · have HE : Hid (q = false) := by
        refine hide ?_
        rw [← unhide H]
        simp only [decide_eq_false_iff_not]
        intro h
        obtain ⟨g, hg, e⟩ := List.mem_map.1 h
        obtain ⟨t, ht, rfl⟩ := List.getElem_of_mem hg
        exact unhide HK t ht (by omega) e
      go_wp2_with fail
      go_ret
      exact ⟨ret_bool' (unhide HE).symm, hww⟩

theorem map_neF {xs ys : List Fb} {k : Nat} (hx : k < xs.length) (hy : k < ys.length) (h : xs[k].l ≠ ys[k].l) : xs.map Fb.l ≠ ys.map Fb.l := by
  intro e
  apply h
  have := congrArg (fun l => l[k]?) e
  simpa [hx, hy] using this
theorem map_takeF {xs ys : List Fb} {k : Nat} (hx : k < xs.length) (hy : k < ys.length) (h : xs[k].l = ys[k].l) (hp : (xs.take k).map Fb.l = (ys.take k).map Fb.l) : (xs.take (k + 1)).map Fb.l = (ys.take (k + 1)).map Fb.l := by
  rw [List.take_succ_eq_append_getElem hx, List.take_succ_eq_append_getElem hy, List.map_append, List.map_append, hp]
  simp [h]

set_option maxHeartbeats 2000000 in
theorem keepFacts_any (a a' : Option Addr) (len cap len' cap' : Nat) (xs ys : List Fb) (q : Bool) (w : World) (hr : RowF w a xs) (hr' : RowF w a' ys) (hl : len ≤ xs.length) (hl' : xs.length ≤ len) (hm : len' ≤ ys.length) (hm' : ys.length ≤ len') (h1k : len ≤ 1000) (hL : ∀ f ∈ xs, f.len ≤ 1000) (H : Hid (decide (xs.map Fb.l = ys.map Fb.l) = q)) :
    Calls Try.prog 18 #[.slice a len cap, .slice a' len' cap'] w fun e w' => e = .returned (.bool q) ∧ Below w.heap.size w w' := by
  have hdr := in_drew
  by_cases hn : len = len'
  · have hn1 : len ≤ len' := by omega
    have hn2 : len' ≤ len := by omega
    have hd : ((len : Int) != (len' : Int)) = false := by simp [hn]
    clear hn
    go_enter Try.func18, Try.ntmps18
    go_wp2_with fail
    go_loopw [5] (fun i wr => ∃ k : Nat, k ≤ len ∧ i = .int .i64 k ∧ Hid ((xs.take k).map Fb.l = (ys.take k).map Fb.l) ∧ Below w.heap.size w wr) (fun i _ => len - (intOf i).toNat)
    case atStart => exact ⟨0, Nat.zero_le _, rfl, hide rfl, Below.refl _ _⟩
    case round =>
      obtain ⟨k, hk, rfl, HK, hbw⟩ := hrel
      by_cases hlt : k < len
      · obtain ⟨b, o, ha, hbl, c0, c1, hin⟩ := (hr.on hbw).up (show k < xs.length by omega)
        subst ha
        obtain ⟨b', o', ha', hbl', c0', c1', hin'⟩ := (hr'.on hbw).up (show k < ys.length by omega)
        subst ha'
        have lf := hL xs[k] (List.getElem_mem (by omega))
        have i1 : (k : Int) < (len' : Int) := by omega
        by_cases hz : xs[k].l = ys[k].l
        · have HQ : Hid (decide (xs[k].l = ys[k].l) = true) := hide (by simp [hz])
          have HN : Hid ((xs.take (k + 1)).map Fb.l = (ys.take (k + 1)).map Fb.l) := hide (map_takeF (by omega) (by omega) hz (unhide HK))
          clear hz
          generalize xs[k] = x at c0 c1 hin lf HQ
          generalize ys[k] = y at c0' c1' hin' HQ
          go_wp2_with fail
          go_region_held3 (fun w' => w'.cell? ⟨b, o + k * 2, none⟩ = some (.string x.n) ∧ w'.cell? ⟨b, o + k * 2 + 1, none⟩ = some (.slice x.a x.len x.cap) ∧ w'.cell? ⟨b', o' + k * 2, none⟩ = some (.string y.n) ∧ w'.cell? ⟨b', o' + k * 2 + 1, none⟩ = some (.slice y.a y.len y.cap) ∧ x.In w' ∧ y.In w') (go_keep) (first | (go_at_call 26; refine (keepFact_q _ _ true _ (by simp [*]) (by simp [*]) lf HQ).mono ?_; rintro e w' ⟨rfl, hb', hk', hi⟩))
          have hbw' := bt hbw.drew hb'
          clear c0 c1 c0' c1' hi hk' hin hin' i1
          go_wp2_with fail
          go_roundw
          case rel => exact ⟨k + 1, by omega, by go_num, HN, hbw'⟩
          case measure => simp [intOf]; omega
        · have HQ : Hid (decide (xs[k].l = ys[k].l) = false) := hide (by simp [hz])
          have HE : Hid (q = false) := hide (by rw [← unhide H]; simp only [decide_eq_false_iff_not]; exact map_neF (by omega) (by omega) hz)
          clear hz
          generalize xs[k] = x at c0 c1 hin lf HQ
          generalize ys[k] = y at c0' c1' hin' HQ
          go_wp2_with fail
          go_region_held3 (fun w' => w'.cell? ⟨b, o + k * 2, none⟩ = some (.string x.n) ∧ w'.cell? ⟨b, o + k * 2 + 1, none⟩ = some (.slice x.a x.len x.cap) ∧ w'.cell? ⟨b', o' + k * 2, none⟩ = some (.string y.n) ∧ w'.cell? ⟨b', o' + k * 2 + 1, none⟩ = some (.slice y.a y.len y.cap) ∧ x.In w' ∧ y.In w') (go_keep) (first | (go_at_call 26; refine (keepFact_q _ _ false _ (by simp [*]) (by simp [*]) lf HQ).mono ?_; rintro e w' ⟨rfl, hb', hk', hi⟩))
          have hbw' := bt hbw.drew hb'
          clear c0 c1 c0' c1' hi hk' hin hin' i1
          go_wp2_with fail
          go_ret
          exact ⟨ret_bool' (unhide HE).symm, hbw'⟩
      · have HE : Hid (q = true) := by
          refine hide ?_
          have h := unhide HK
          rw [List.take_of_length_le (by omega), List.take_of_length_le (by omega)] at h
          rw [← unhide H, h]; simp
        go_wp2_with fail
        go_ret
        exact ⟨ret_bool' (unhide HE).symm, hbw⟩
  · have HE : Hid (q = false) := by
      refine hide ?_
      rw [← unhide H]
      simp only [decide_eq_false_iff_not]
      intro h
      have := congrArg List.length h
      simp at this
      omega
    have hd : ((len : Int) != (len' : Int)) = true := by simp; omega
    clear hn
    go_enter Try.func18, Try.ntmps18
    go_wp2_with fail
    go_ret
    exact ⟨ret_bool' (unhide HE).symm, Below.refl _ _⟩
end Go.Proofs.Ytmnonjacomabbaa

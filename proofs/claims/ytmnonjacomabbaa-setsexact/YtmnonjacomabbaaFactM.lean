/- What the document's own Facts and Lists answer. -/
import Derived.Test.YtmnonjacomabbaaFactL
import Derived.Test.YtmnonjacomabbaaFactJ
namespace Go.Proofs.Ytmnonjacomabbaa
open Go.RowKit
open V

theorem refValues_k (x y : Vb) (w : World) (hx : x.s.size ≤ 200) (hy : y.s.size ≤ 200) :
    Calls Try.prog 59 #[.agg #[.int .i64 x.k, .int .i64 x.n, .string x.s], .agg #[.int .i64 y.k, .int .i64 y.n, .string y.s]] w fun e w' => e = .returned (.int .i64 (cmpV x.l y.l)) ∧ Below w.heap.size w w' ∧ (∀ b o v, w.cell? ⟨b, o, none⟩ = some v → w'.cell? ⟨b, o, none⟩ = some v) := by
  refine (refValues_any _ _ _ _ _ _ w (by omega) (by omega)).mono ?_
  rintro e w' ⟨rfl, hb⟩
  exact ⟨rfl, hb, fun b o v h => cell_on hb h⟩

set_option maxHeartbeats 4000000 in
theorem refFacts_any (n n' : ByteArray) (a a' : Option Addr) (len len' cap cap' : Nat) (xs ys : List Vb) (w : World) (hn : n.size ≤ 200) (hn' : n'.size ≤ 200) (hv : ∀ v ∈ xs, v.s.size ≤ 200) (hv' : ∀ v ∈ ys, v.s.size ≤ 200) (hr : RowV w a xs) (hr' : RowV w a' ys) (hl : len ≤ xs.length) (hl' : xs.length ≤ len) (hm : len' ≤ ys.length) (hm' : ys.length ≤ len') (h20 : len ≤ 1000) :
    Calls Try.prog 39 #[.agg #[.string n, .slice a len cap], .agg #[.string n', .slice a' len' cap']] w fun e w' => e = .returned (.int .i64 (cmpF (n.data.toList, xs.map Vb.l) (n'.data.toList, ys.map Vb.l))) ∧ Below w.heap.size w w' := by
  have hby : Below w.heap.size w ((w.alloc (.cells #[.string n, .slice a len cap] 25)).alloc (.cells #[.string n', .slice a' len' cap'] 25)) := ((Below.refl _ _).alloc (Nat.le_refl _) _).alloc (by simp) _
  have k1 : ((w.alloc (.cells #[.string n, .slice a len cap] 25)).alloc (.cells #[.string n', .slice a' len' cap'] 25)).cell? ⟨w.heap.size, 1, none⟩ = some (.slice a len cap) := by
    rw [Lib.cell_of_heap ((Lib.alloc_old _ _ _ (by simp)).trans (heap_alloc_new w _))]; rfl
  have k1' : ((w.alloc (.cells #[.string n, .slice a len cap] 25)).alloc (.cells #[.string n', .slice a' len' cap'] 25)).cell? ⟨w.heap.size + 1, 1, none⟩ = some (.slice a' len' cap') := by
    have := heap_alloc_new (w.alloc (.cells #[.string n, .slice a len cap] 25)) (.cells #[.string n', .slice a' len' cap'] 25)
    rw [show (w.alloc (.cells #[.string n, .slice a len cap] 25)).heap.size = w.heap.size + 1 by simp] at this
    rw [Lib.cell_of_heap this]; rfl
  have HC : Hid (cmpF (n.data.toList, xs.map Vb.l) (n'.data.toList, ys.map Vb.l) = if Lib.compareBytes n.data.toList n'.data.toList ≠ 0 then Lib.compareBytes n.data.toList n'.data.toList else if Lib.compareInt len len' ≠ 0 then Lib.compareInt len len' else lexL cmpV (xs.map Vb.l) (ys.map Vb.l)) := by
    show _ = _
    unfold cmpF
    simp only [List.length_map, show xs.length = len by omega, show ys.length = len' by omega]
  go_enter Try.func39, Try.ntmps39
  go_wp2_with fail
  refine (refStrings_any n n' _ (by omega) (by omega)).mono ?_
  rintro e w1 ⟨rfl, hb1⟩
  have hw1 := bt hby hb1
  have m1 := cell_on hb1 k1
  have m1' := cell_on hb1 k1'
  clear k1 k1' hby hb1
  by_cases hc : Lib.compareBytes n.data.toList n'.data.toList = 0
  · have d0 : (Lib.compareBytes n.data.toList n'.data.toList != 0) = false := by simp [hc]
    have HZ := hide hc
    clear hc
    go_wp2_with (go_at_call 58; refine (refOrder_any _ _ _).mono ?_; rintro e w2 ⟨rfl, hw2⟩; subst w2; refine Hid.out ?_)
    refine Lib.hid ?_
    by_cases hc : Lib.compareInt len len' = 0
    · have d1 : (Lib.compareInt len len' != 0) = false := by simp [hc]
      have hle : len ≤ len' := by have := (ord_int.zero _ _).1 hc; omega
      have hle' : len' ≤ len := by have := (ord_int.zero _ _).1 hc; omega
      have HR : Hid (cmpF (n.data.toList, xs.map Vb.l) (n'.data.toList, ys.map Vb.l) = lexL cmpV (xs.map Vb.l) (ys.map Vb.l)) := by
        show _ = _
        rw [unhide HC, unhide HZ, hc]; simp
      clear hc
      go_wp2_with fail
      go_loopw [7, 8] (fun i _ wr => ∃ k : Nat, k ≤ len ∧ i = .int .i64 k ∧ Hid (lexL cmpV (xs.map Vb.l) (ys.map Vb.l) = lexL cmpV ((xs.drop k).map Vb.l) ((ys.drop k).map Vb.l)) ∧ Below w1.heap.size w1 wr) (fun i _ _ => len - (intOf i).toNat)
      case atStart => exact ⟨0, Nat.zero_le _, rfl, hide (by simp), Below.refl _ _⟩
      case round =>
        obtain ⟨k, hk, rfl, HK, hbw⟩ := hrel
        have r1 := cell_on hbw m1
        have r1' := cell_on hbw m1'
        have hww : Below w.heap.size w wr := bt hw1 hbw
        by_cases hlt : k < len
        · obtain ⟨b, o, ha, hbl, c0, c1, c2⟩ := (hr.on hww).up (show k < xs.length by omega)
          subst ha
          obtain ⟨b', o', ha', hbl', c0', c1', c2'⟩ := (hr'.on hww).up (show k < ys.length by omega)
          subst ha'
          have hsx := hv xs[k] (List.getElem_mem (by omega))
          have hsy := hv' ys[k] (List.getElem_mem (by omega))
          have hlt' : k < len' := by omega
          have HD := hide (lex_cons (f := cmpV) (g := Vb.l) (show k < xs.length by omega) (show k < ys.length by omega))
          go_wp2_with fail
          go_region_held3 (fun w' => w'.cell? ⟨w.heap.size, 1, none⟩ = some (.slice (some ⟨b, o, none⟩) len cap) ∧ w'.cell? ⟨w.heap.size + 1, 1, none⟩ = some (.slice (some ⟨b', o', none⟩) len' cap') ∧ w'.cell? ⟨b, o + k * 3, none⟩ = some (.int .i64 xs[k].k) ∧ w'.cell? ⟨b, o + k * 3 + 1, none⟩ = some (.int .i64 xs[k].n) ∧ w'.cell? ⟨b, o + k * 3 + 2, none⟩ = some (.string xs[k].s) ∧ w'.cell? ⟨b', o' + k * 3, none⟩ = some (.int .i64 ys[k].k) ∧ w'.cell? ⟨b', o' + k * 3 + 1, none⟩ = some (.int .i64 ys[k].n) ∧ w'.cell? ⟨b', o' + k * 3 + 2, none⟩ = some (.string ys[k].s)) (go_keep) (first | (go_at_call 59; refine (refValues_k _ _ _ hsx hsy).mono ?_; rintro e w' ⟨rfl, hb, hk⟩))
          have hbw' : Below w1.heap.size w1 w' := bt hbw.drew hb
          clear c0 c1 c2 c0' c1' c2' r1 r1'
          by_cases hz : cmpV xs[k].l ys[k].l = 0
          · have d0 : (cmpV xs[k].l ys[k].l != 0) = false := by simp [hz]
            have HN : Hid (lexL cmpV (xs.map Vb.l) (ys.map Vb.l) = lexL cmpV ((xs.drop (k + 1)).map Vb.l) ((ys.drop (k + 1)).map Vb.l)) := by
              show _ = _
              rw [unhide HK, unhide HD, hz]; simp
            clear hz
            go_wp2_with fail
            go_roundw
            case rel => exact ⟨k + 1, by omega, by go_num, HN, hbw'⟩
            case measure => simp [intOf]; omega
          · have d0 : (cmpV xs[k].l ys[k].l != 0) = true := by simp [hz]
            have HN : Hid (lexL cmpV (xs.map Vb.l) (ys.map Vb.l) = cmpV xs[k].l ys[k].l) := by
              show _ = _
              rw [unhide HK, unhide HD, if_pos hz]
            clear hz
            go_wp2_with fail
            go_ret
            exact ⟨ret_int (by rw [unhide HR, unhide HN]), bt hw1 hbw'⟩
        · have HN : Hid (lexL cmpV (xs.map Vb.l) (ys.map Vb.l) = 0) := by
            show _ = _
            rw [unhide HK, lex_both (by omega) (by omega)]
          go_wp2_with fail
          go_ret
          exact ⟨ret_int (by rw [unhide HR, unhide HN]), hww⟩
    · have d1 : (Lib.compareInt len len' != 0) = true := by simp [hc]
      have HR : Hid (cmpF (n.data.toList, xs.map Vb.l) (n'.data.toList, ys.map Vb.l) = Lib.compareInt len len') := by
        show _ = _
        rw [unhide HC, unhide HZ, if_pos hc]; simp
      clear hc
      go_wp2_with fail
      go_ret
      exact ⟨ret_int (unhide HR).symm, hw1⟩
  · have d0 : (Lib.compareBytes n.data.toList n'.data.toList != 0) = true := by simp [hc]
    have HR : Hid (cmpF (n.data.toList, xs.map Vb.l) (n'.data.toList, ys.map Vb.l) = Lib.compareBytes n.data.toList n'.data.toList) := by
      show _ = _
      rw [unhide HC, if_pos hc]
    clear hc
    go_wp2_with fail
    go_ret
    exact ⟨ret_int (unhide HR).symm, hw1⟩

theorem refFacts_k (f g : Fb) (w : World) (lf : f.Light) (lg : g.Light) (hf : f.In w) (hg : g.In w) :
    Calls Try.prog 39 #[.agg #[.string f.n, .slice f.a f.len f.cap], .agg #[.string g.n, .slice g.a g.len g.cap]] w fun e w' => e = .returned (.int .i64 (cmpF f.l g.l)) ∧ Below w.heap.size w w' ∧ (∀ b o v, w.cell? ⟨b, o, none⟩ = some v → w'.cell? ⟨b, o, none⟩ = some v) ∧ (∀ f : Fb, f.In w → f.In w') := by
  refine (refFacts_any _ _ _ _ _ _ _ _ _ _ w lf.n lg.n lf.vs lg.vs hf.row hg.row (by rw [hf.len]; omega) (by rw [hf.len]; omega) (by rw [hg.len]; omega) (by rw [hg.len]; omega) (by have := lf.len; omega)).mono ?_
  rintro e w' ⟨rfl, hb⟩
  exact ⟨rfl, hb, fun b o v h => cell_on hb h, fun f h => h.on hb⟩

end Go.Proofs.Ytmnonjacomabbaa

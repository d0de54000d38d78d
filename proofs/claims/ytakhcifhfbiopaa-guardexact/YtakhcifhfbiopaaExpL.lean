/- What the document's Eval answers. -/
import Derived.Test.YtakhcifhfbiopaaExpH
import Derived.Deep.DeepCutAuto
namespace Go.Proofs.Ytakhcifhfbiopaa.Sb
open Go.RowKit
open V
open Ex (RowO LiesO flatO)
open N (doL)

theorem three_sets_a {W : World} {b : Nat} {x y z x' y' z' : Value} {o : Obj} (h0 : W.cell? ⟨b, 0, none⟩ = some x') (h1 : W.cell? ⟨b, 1, none⟩ = some y') (h2 : W.cell? ⟨b, 2, none⟩ = some z') :
    ((((W.setCell ⟨b, 0, none⟩ x).setCell ⟨b, 1, none⟩ y).setCell ⟨b, 2, none⟩ z).alloc o).cell? ⟨b, 0, none⟩ = some x ∧ ((((W.setCell ⟨b, 0, none⟩ x).setCell ⟨b, 1, none⟩ y).setCell ⟨b, 2, none⟩ z).alloc o).cell? ⟨b, 1, none⟩ = some y ∧ ((((W.setCell ⟨b, 0, none⟩ x).setCell ⟨b, 1, none⟩ y).setCell ⟨b, 2, none⟩ z).alloc o).cell? ⟨b, 2, none⟩ = some z := by
  obtain ⟨g0, g1, g2⟩ := three_sets (x := x) (y := y) (z := z) h0 h1 h2
  have hb := (Below.refl (((W.setCell ⟨b, 0, none⟩ x).setCell ⟨b, 1, none⟩ y).setCell ⟨b, 2, none⟩ z).heap.size _).alloc (Nat.le_refl _) o
  exact ⟨cell_on hb g0, cell_on hb g1, cell_on hb g2⟩
theorem two_boxes (W : World) (X Y : Obj) : ((W.alloc X).alloc Y).drew.heap[W.heap.size]? = some X ∧ ((W.alloc X).alloc Y).drew.heap[W.heap.size + 1]? = some Y ∧ Below W.heap.size W ((W.alloc X).alloc Y).drew := by
  have s1 : (W.alloc X).heap.size = W.heap.size + 1 := by simp
  have h1 := heap_alloc_new (W.alloc X) Y
  rw [s1] at h1
  exact ⟨(Lib.alloc_old _ _ _ (by omega)).trans (heap_alloc_new W X), h1, (((Below.refl _ _).alloc (Nat.le_refl _) _).alloc (by omega) _).drew⟩
theorem refDo_b (k a b v e : Int) (w : World) (hr : Hid (doL k a b = (v, e))) :
    Calls Try.prog 54 #[.int .i64 k, .int .i64 a, .int .i64 b] w fun r w' => r = .returned (.tuple #[.int .i64 v, .int .i64 e]) ∧ Below w.heap.size w w' := by
  refine (N.ref_any k a b v e w hr).mono ?_
  rintro r w' ⟨rfl, h⟩
  subst h
  exact ⟨rfl, Below.refl _ _⟩
/-- The last two values of a stack. -/
theorem top_two {w : World} {B n c : Nat} {s : Option Addr} {st : List Vv} (hown : w.ownsRow B 23 3 (.slice s n c) n (flatV st)) (h2 : 2 ≤ st.length) : ∃ (pre : List Vv) (x y : Vv) (m g : Nat), st = pre ++ [x, y] ∧ n = m + 2 ∧ s = some ⟨g, 0, none⟩ ∧ m = pre.length ∧ B ≤ g ∧ g < w.heap.size ∧ m + 2 ≤ c ∧
    w.cell? ⟨g, m * 3, none⟩ = some (.int .i64 x.1) ∧ w.cell? ⟨g, m * 3 + 1, none⟩ = some (.int .i64 x.2.1) ∧ w.cell? ⟨g, m * 3 + 2, none⟩ = some (.string x.2.2) ∧ w.cell? ⟨g, (m + 1) * 3, none⟩ = some (.int .i64 y.1) ∧ w.cell? ⟨g, (m + 1) * 3 + 1, none⟩ = some (.int .i64 y.2.1) ∧ w.cell? ⟨g, (m + 1) * 3 + 2, none⟩ = some (.string y.2.2) := by
  obtain ⟨pre, x, y, rfl⟩ := snoc_two h2
  obtain ⟨g, hg, hBg, hgl, hn, hcs, d0, d1, d2⟩ := own_at (i := pre.length) (x := x) hown (by simp)
  obtain ⟨g'', hg'', -, -, -, -, y0, y1, y2⟩ := own_at (i := pre.length + 1) (x := y) hown (by simp)
  subst hg
  simp only [Option.some.injEq, Addr.mk.injEq, and_true] at hg''
  subst hg''
  have hn' : n = pre.length + 2 := by simpa using hn
  exact ⟨pre, x, y, pre.length, g, rfl, hn', rfl, rfl, hBg, hgl, by omega, d0, d1, d2, y0, y1, y2⟩
theorem m_facts {m : Nat} (h : m ≤ 100) : wrap64 (m : Int) = (m : Int) ∧ (0 : Int) ≤ (m : Int) ∧ (m : Int) < (m : Int) + 2 ∧ IntKind.i64.wrap ((m : Int) + 1) = (m : Int) + 1 ∧ IntKind.i64.wrap (m : Int) = (m : Int) ∧ (0 : Int) ≤ (m : Int) + 1 ∧ (m : Int) + 1 < (m : Int) + 2 ∧ ((m : Int) + 1).toNat = m + 1 ∧ wrap64 ((m : Int) + 1) = (m : Int) + 1 ∧ wrap64 ((m : Int) + 2 - 1) = (m : Int) + 1 ∧ IntKind.i64.wrap ((m : Int) + 2 - 1) = (m : Int) + 1 := by
  refine ⟨by simp [wrap64]; omega, by omega, by omega, by simp [IntKind.wrap, IntKind.bits, IntKind.signed]; omega, by simp [IntKind.wrap, IntKind.bits, IntKind.signed]; omega, by omega, by omega, by omega, by simp [wrap64]; omega, ?_, ?_⟩
  · rw [show (m : Int) + 2 - 1 = (m : Int) + 1 by omega]; simp [wrap64]; omega
  · rw [show (m : Int) + 2 - 1 = (m : Int) + 1 by omega]; simp [IntKind.wrap, IntKind.bits, IntKind.signed]; omega
theorem m_fits {m : Nat} (h : m ≤ 98) : m + 1 ≤ maxLen ∧ ((m + 1) + (m + 1) / 4 + 192) * 32 ≤ 281474976710656 := ⟨by unfold maxLen; omega, by omega⟩
theorem can_two {o : Oo} {st : List Vv} (h1 : o.1 ≠ 1) (h2 : o.1 ≠ 2) (h : pushO o = true ∨ pushO o = false ∧ 2 ≤ st.length) : 2 ≤ st.length := by
  rcases h with h | ⟨_, h⟩
  · simp only [pushO, decide_eq_true_eq] at h
    rcases h with h | h
    · exact absurd h h1
    · exact absurd h h2
  · exact h

set_option maxHeartbeats 4000000 in
set_option maxRecDepth 100000 in
theorem refEval_any (a : Option Addr) (len cap : Nat) (xs : List Oo) (a' : Option Addr) (len' cap' : Nat) (bs : List Bb) (v : Vv) (r : Int) (w : World) (hA : LiesO w a len cap xs) (hL : ∀ x ∈ xs, LtO x) (hB : Lies w a' len' cap' bs) (hLb : ∀ x ∈ bs, Lt x) (h1k : len' ≤ 1000) (HX : Hid (exprB xs = true)) (H : Hid (evalL bs xs = (v, r))) :
    Calls Try.prog 38 #[.slice a len cap, .slice a' len' cap'] w fun e w' => e = .returned (.tuple #[.agg #[.int .i64 v.1, .int .i64 v.2.1, .string v.2.2], .int .i64 r]) ∧ Below w.heap.size w w' := by
  obtain ⟨i0, hi, hy0, hy1, hy2⟩ := info_parts infoV
  have h15 : len ≤ 15 := by have := (expr_iff.1 (unhide HX)).1.2; have := hA.len; omega
  have hb0 : Below w.heap.size w (w.alloc (.cells #[.int .i64 0, .int .i64 0, .string ⟨#[]⟩] 23)) := (Below.refl _ _).alloc (Nat.le_refl _) _
  have hz2 : (w.alloc (.cells #[.int .i64 0, .int .i64 0, .string ⟨#[]⟩] 23)).heap[w.heap.size]? = some (bxV zeroV) := heap_alloc_new w _
  have hs2 : w.heap.size < (w.alloc (.cells #[.int .i64 0, .int .i64 0, .string ⟨#[]⟩] 23)).heap.size := by simp
  have hrow2 := hA.row.on hb0
  have hl := hA.le
  have hl' := hA.ge
  have hrowb2 := hB.row.on hb0
  have hm := hB.le
  have hm' := hB.ge
  have HL := hide hL
  have HLb := hide hLb
  clear hA hB hL hLb
  go_enter Try.func38, Try.ntmps38
  go_wp2_with fail
  generalize w.alloc (.cells #[.int .i64 0, .int .i64 0, .string ⟨#[]⟩] 23) = w2 at hb0 hz2 hs2 hrow2 hrowb2
  go_loopw [6, 7] (fun sv i wr => ∃ (k n c : Nat) (s : Option Addr) (st : List Vv), k ≤ len ∧ i = .int .i64 k ∧ sv = .slice s n c ∧ Hid (runV bs [] (xs.take k) = .ok st.reverse) ∧ wr.ownsRow w2.heap.size 23 3 (.slice s n c) n (flatV st) ∧ Below w2.heap.size w2 wr) (fun _ i _ => len - (intOf i).toNat)
  case atStart => exact ⟨0, 0, 0, none, [], Nat.zero_le _, rfl, rfl, hide (by simp [runV]), World.ownsRow_nil _ _ _ _, Below.refl _ _⟩
  case round =>
    obtain ⟨k, n, c, s, st, hk, rfl, rfl, HK, hown, hbw⟩ := hrel
    have hn : n = st.length := by have := hown.1; rw [flatV_len] at this; omega
    have hn15 : n ≤ 100 := by
      have h1 := run_count (unhide HX) (unhide HK)
      have h2 := dep_le (expr_iff.1 (unhide HX)).2.2 k (by omega)
      rw [List.length_reverse] at h1
      omega
    have hww := bt hb0 hbw
    have hzr := (hbw.block w.heap.size hs2).trans hz2
    by_cases hlt : k < len
    · obtain ⟨b, o, ha, hbl, c0, c1, c2, c3, c4⟩ := (hrow2.on hbw).up (show k < xs.length by omega)
      subst ha
      have hcan := run_can (unhide HX) (show k < xs.length by omega) (unhide HK)
      have hright := (expr_iff.1 (unhide HX)).2.1 xs[k] (List.getElem_mem (by omega))
      have HN := hide (runV_next (show k < xs.length by omega) (unhide HK))
      have hrb := hrowb2.on hbw
      generalize xs[k] = t at c0 c1 c2 c3 c4 HN hcan hright
      obtain ⟨kk, nn, vv⟩ := t
      simp only at c0 c1 c2 c3 c4
      by_cases h1 : kk = 1
      · subst h1
        clear hcan hright hn
        cases hg : getL bs nn with
        | none =>
          have HE := hide ((unhide H).symm.trans (runV_stop ((unhide HN).trans (by simp [stepV, hg]; rfl))))
          have HG := hide (getR_none hg)
          obtain ⟨hv, hr⟩ := Prod.mk.inj (unhide HE)
          subst hv hr
          clear hg HE H
          go_wp2_with fail
          refine (refGet_any a' len' cap' bs nn _ false wr hrb hm hm' h1k HG).mono ?_
          rintro e w3 ⟨rfl, hb3⟩
          have hbx := bt hbw hb3
          have hw4 := bt hb0 hbx
          have hz3 := (hbx.block w.heap.size hs2).trans hz2
          obtain ⟨z0, z1, z2⟩ := trip_of (v := zeroV) hz3
          have f0 := Lib.frozen_of_heap hz3 0
          have f1 := Lib.frozen_of_heap hz3 1
          have f2 := Lib.frozen_of_heap hz3 2
          have hlt3 : w.heap.size < w3.heap.size := by have := hbx.size; omega
          have T := three_sets_a (o := .cells #[.int .i64 0, .int .i64 0, .string ⟨#[]⟩] 23) (x := .int .i64 0) (y := .int .i64 0) (z := .string ⟨#[]⟩) z0 z1 z2
          clear hb3 hz3 hzr c0 c1 c2 c3 c4 hown
          go_wp2_with fail
          refine bodyPost_ret (v := .tuple #[.agg #[.int .i64 0, .int .i64 0, .string ⟨#[]⟩], .int .i64 5]) (by simp [results, Try.results38, go_sem, T.1, T.2.1, T.2.2]) rfl ?_
          exact ⟨rfl, (((hw4.setCell (p := ⟨w.heap.size, 0, none⟩) (Nat.le_refl _) _).setCell (p := ⟨w.heap.size, 1, none⟩) (Nat.le_refl _) _).setCell (p := ⟨w.heap.size, 2, none⟩) (Nat.le_refl _) _).alloc (by simp; omega) _⟩
        | some u =>
          have HN' : Hid (runV bs [] (xs.take (k + 1)) = .ok (st ++ [u]).reverse) := hide ((unhide HN).trans (by simp [stepV, hg]))
          have HG := hide (getR_some hg)
          clear hg
          go_wp2_with fail
          refine (refGet_any a' len' cap' bs nn _ true wr hrb hm hm' h1k HG).mono ?_
          rintro e w4 ⟨rfl, hb3⟩
          have hbx : Below w2.heap.size w2 (w4.alloc (bxV u)) := (bt hbw hb3).alloc (bt hbw hb3).size _
          have hsx := (own_on hown hb3).alloc (bxV u)
          have hsA := hsx.alloc (bxV u)
          have hcv := hide (cells_v (heap_alloc_new (w4.alloc (bxV u)) (bxV u)))
          have hbA : Below w2.heap.size w2 ((w4.alloc (bxV u)).alloc (bxV u)) := hbx.alloc hbx.size _
          have hsz : (w4.alloc (bxV u)).heap.size = w4.heap.size + 1 := by simp
          rw [hsz] at hcv
          clear hown hsx hb3 c0 c1 c2 c3 c4
          go_wp2_with (at_builtin; refine wpList_append_own_wide _ rfl _ _ 69 rfl w2.heap.size 23 i0 (.agg #[.int .i64 0, .int .i64 0, .string ⟨#[]⟩]) 3 32 Try.underlying69 hi hy0 hy1 hy2 rfl (by decide) _ n (flatV st) rfl hsA ⟨w4.heap.size + 1, 0, none⟩ 1 1 (flatV [u]) rfl ?c0 ?c1 ?c2 ?c3 ?c4 ?c5 ?_)
          case c0 => rfl
          case c1 => exact unhide hcv
          case c2 => exact flatV_oneCell [u]
          case c3 => unfold maxLen; omega
          case c4 => omega
          case c5 => exact hbA.size
          intro v' w3 hown3 hgrow hnil3
          obtain ⟨aq3, cq3, rfl⟩ := own_slice hown3
          have hbw3 := hbA.grown hgrow hbA.size (fun m hm => (hsA.lt m hm).1)
          rw [← flatV_app] at hown3
          clear hgrow hnil3 hsA hcv hbA
          go_wp2_with fail
          go_roundw
          case rel => exact ⟨k + 1, n + 1, cq3, aq3, st ++ [u], by omega, by go_num, rfl, HN', hown3, hbw3⟩
          case measure => simp [intOf]; omega
      · by_cases h2 : kk = 2
        · subst h2
          clear hcan hright h1 hn
          have hsA := hown.alloc (bxV vv)
          have hcv := hide (cells_v (heap_alloc_new wr (bxV vv)))
          have hbA : Below w2.heap.size w2 (wr.alloc (bxV vv)) := hbw.alloc hbw.size _
          have HN' : Hid (runV bs [] (xs.take (k + 1)) = .ok (st ++ [vv]).reverse) := hide ((unhide HN).trans (by simp [stepV]))
          clear hown
          go_wp2_with (at_builtin; refine wpList_append_own_wide _ rfl _ _ 69 rfl w2.heap.size 23 i0 (.agg #[.int .i64 0, .int .i64 0, .string ⟨#[]⟩]) 3 32 Try.underlying69 hi hy0 hy1 hy2 rfl (by decide) _ n (flatV st) rfl hsA ⟨wr.heap.size, 0, none⟩ 1 1 (flatV [vv]) rfl ?c0 ?c1 ?c2 ?c3 ?c4 ?c5 ?_)
          case c0 => rfl
          case c1 => exact unhide hcv
          case c2 => exact flatV_oneCell [vv]
          case c3 => unfold maxLen; omega
          case c4 => omega
          case c5 => exact hbA.size
          intro v' w3 hown3 hgrow hnil3
          obtain ⟨aq3, cq3, rfl⟩ := own_slice hown3
          have hbw3 := hbA.grown hgrow hbA.size (fun m hm => (hsA.lt m hm).1)
          rw [← flatV_app] at hown3
          clear hgrow hnil3 hsA hcv hbA
          go_wp2_with fail
          go_roundw
          case rel => exact ⟨k + 1, n + 1, cq3, aq3, st ++ [vv], by omega, by go_num, rfl, HN', hown3, hbw3⟩
          case measure => simp [intOf]; omega
        · have e1 : (kk == 1) = false := by simpa using h1
          have e2 : (kk == 2) = false := by simpa using h2
          obtain ⟨pre, x, y, m, g, hst, hnm, hg, hml, hBg, hgl, hcs, d0, d1, d2, y0, y1, y2⟩ := top_two hown (can_two h1 h2 hcan)
          subst hst hnm hg
          have HML := hide hml
          have HK1 := hide h1
          have HK2 := hide h2
          have hm98 : m ≤ 98 := Nat.le_of_add_le_add_right hn15
          obtain ⟨m1, m2, m3, m4, m5, m6, m7, m8, m9, m10, m11⟩ := m_facts (Nat.le_trans hm98 (by decide))
          clear hn hcan hright h1 h2 hml
          have hlg := hgl
          go_upto_region 6 with fail
          go_cut [10, 11] from 25 to 36 (fun p10 p11 wx => ∃ p q : Nat, p10 = .pointer (some ⟨p, 0, none⟩) ∧ p11 = .pointer (some ⟨q, 0, none⟩) ∧ wx.heap[p]? = some (bxV x) ∧ wx.heap[q]? = some (bxV y) ∧ Below wr.heap.size wr wx)
          case first =>
            go_region
            all_goals
              go_wp2_with fail
              go_meet
              first
                | exact ⟨_, _, rfl, rfl, (two_boxes wr (bxV x) (bxV y)).1, (two_boxes wr (bxV x) (bxV y)).2.1, (two_boxes wr (bxV x) (bxV y)).2.2⟩
                | exact ⟨_, _, rfl, rfl, (two_boxes wr (bxV y) (bxV x)).2.1, (two_boxes wr (bxV y) (bxV x)).1, (two_boxes wr (bxV y) (bxV x)).2.2⟩
          case rest =>
            obtain ⟨p, q, rfl, rfl, hp, hq, hbc⟩ := hcut
            obtain ⟨wz, hwz⟩ : ∃ wz, wz = wc := ⟨_, rfl⟩
            subst hwz
            have hw3 : Below w2.heap.size w2 wz := bt hbw hbc
            have ki1 : (k : Int) < (len : Int) := Int.ofNat_lt.2 hlt
            have ki2 : (0 : Int) ≤ (k : Int) := Int.natCast_nonneg k
            obtain ⟨p0, p1, p2⟩ := trip_of (v := x) hp
            obtain ⟨q0, q1, q2⟩ := trip_of (v := y) hq
            replace c0 := cell_on hbc c0
            have hownz := own_on hown hbc
            clear c1 c2 c3 c4 d0 d1 d2 y0 y1 y2 hp hq hown hzr hww hrb
            by_cases hx1 : x.1 = 1
            · by_cases hy1' : y.1 = 1
              · have kx : (x.1 != 1) = false := by simpa using hx1
                have ky : (y.1 != 1) = false := by simpa using hy1'
                obtain ⟨⟨dv, de⟩, hdo⟩ : ∃ z, doL kk x.2.1 y.2.1 = z := ⟨_, rfl⟩
                have HD := hide hdo
                by_cases hde : de = 0
                · subst hde
                  have HN' : Hid (runV bs [] (xs.take (k + 1)) = .ok (pre ++ [((1, dv, ⟨#[]⟩) : Vv)]).reverse) := hide ((unhide HN).trans ((stepV_op (u := ((1, dv, ⟨#[]⟩) : Vv)) (e := 0) (unhide HK1) (unhide HK2) (by simp [reckR, hx1, hy1', hdo])).trans (if_pos rfl)))
                  clear hx1 hy1' hdo HN
                  go_wp2_with fail
                  have F1 := cls (wr := wz) (fun V _ => refDo_b kk x.2.1 y.2.1 dv 0 V HD)
                  have g0 := cell_regrown c0
                  have g1 := cell_regrown p1
                  have g2 := cell_regrown q1
                  clear p0 p1 p2 q0 q1 q2 c0
                  refine wp_region_quiet_below (by kernel_rfl) (by kernel_rfl) ?_
                  repeat (go_big_quiet_step (first | with_reducible exact F1 _ _))
                  refine wpQuiet_nil ?_
                  intro _ hw'
                  obtain ⟨⟨dq, osq⟩, hw''⟩ := hw'
                  subst hw''
                  replace hw3 := bt hw3 (below_regrown wz dq osq)
                  replace hownz := own_on hownz (below_regrown wz dq osq)
                  clear F1 g0 g1 g2 hbc
                  generalize Sort.grow (redrawn wz dq) osq = w9 at hw3 hownz
                  have hc9 := own_cut hownz (show m ≤ m + 2 from Nat.le_add_right _ _)
                  rw [flatV_take pre [x, y] m (unhide HML)] at hc9
                  have hsA : (w9.alloc (.cells #[.int .i64 1, .int .i64 dv, .string ⟨#[]⟩] 23)).ownsRow w2.heap.size 23 3 (.slice (some ⟨g, 0, none⟩) m c) m (flatV pre) := hc9.alloc _
                  have hcv : Hid (∀ (j : Nat) (u : Value), [Value.int .i64 1, .int .i64 dv, .string ⟨#[]⟩][j]? = some u → (w9.alloc (.cells #[.int .i64 1, .int .i64 dv, .string ⟨#[]⟩] 23)).cell? ((⟨w9.heap.size, 0, none⟩ : Addr).add j) = some u) := hide (cells_v (v := (1, dv, ⟨#[]⟩)) (heap_alloc_new w9 (.cells #[.int .i64 1, .int .i64 dv, .string ⟨#[]⟩] 23)))
                  have hbA : Below w2.heap.size w2 (w9.alloc (.cells #[.int .i64 1, .int .i64 dv, .string ⟨#[]⟩] 23)) := hw3.alloc hw3.size _
                  have mc : (m : Int) ≤ (c : Int) := Int.ofNat_le.2 (Nat.le_trans (Nat.le_add_right m 2) hcs)
                  have M1 := hide (m_fits hm98).1
                  have M2 := hide (m_fits hm98).2
                  have HO : Hid (∀ u ∈ [Value.int .i64 1, .int .i64 dv, .string ⟨#[]⟩], u.oneCell' = true) := hide (flatV_oneCell [((1, dv, ⟨#[]⟩) : Vv)])
                  clear hownz hc9 m3 m4 m6 m7 m8 m9 m10 m11 hlg hgl hBg hcs hm98 hn15 ki1 ki2
                  go_wp2_with (at_builtin; refine wpList_append_own_wide _ rfl _ _ 69 rfl w2.heap.size 23 i0 (.agg #[.int .i64 0, .int .i64 0, .string ⟨#[]⟩]) 3 32 Try.underlying69 hi hy0 hy1 hy2 rfl (by decide) _ m (flatV pre) rfl hsA ⟨w9.heap.size, 0, none⟩ 1 1 [Value.int .i64 1, .int .i64 dv, .string ⟨#[]⟩] rfl rfl (unhide hcv) (unhide HO) (unhide M1) (unhide M2) hbA.size ?_; intro v' w4 hown3 hgrow hnil3)
                  obtain ⟨aq3, cq3, rfl⟩ := own_slice hown3
                  have hbw3 := hbA.grown hgrow hbA.size (fun j hj => (hsA.lt j hj).1)
                  have hown4 : w4.ownsRow w2.heap.size 23 3 (.slice aq3 (m + 1) cq3) (m + 1) (flatV (pre ++ [((1, dv, ⟨#[]⟩) : Vv)])) := by rw [flatV_app]; exact hown3
                  have HL' := hide (show k + 1 ≤ len from hlt)
                  clear hgrow hnil3 hsA hcv hbA hown3 mc m1 m2 m5
                  go_wp2_with fail
                  go_roundw
                  case rel => exact ⟨k + 1, m + 1, cq3, aq3, _, unhide HL', by go_num, rfl, HN', hown4, hbw3⟩
                  case measure => simp [intOf]; omega
                · have hne : (de != 0) = true := by simpa using hde
                  have HE := hide ((unhide H).symm.trans (runV_stop ((unhide HN).trans ((stepV_op (u := zeroV) (e := de) (unhide HK1) (unhide HK2) (by simp [reckR, hx1, hy1', hdo, hde])).trans (if_neg hde)))))
                  clear hx1 hy1' hdo HN hde
                  go_wp2_with fail
                  have F1 := cls (wr := wz) (fun V _ => refDo_b kk x.2.1 y.2.1 dv de V HD)
                  have g0 := cell_regrown c0
                  have g1 := cell_regrown p1
                  have g2 := cell_regrown q1
                  clear p0 p1 p2 q0 q1 q2 c0
                  refine wp_region_quiet_below (by kernel_rfl) (by kernel_rfl) ?_
                  repeat (go_big_quiet_step (first | with_reducible exact F1 _ _))
                  refine wpQuiet_nil ?_
                  intro _ hw'
                  obtain ⟨⟨dq, osq⟩, hw''⟩ := hw'
                  subst hw''
                  replace hw3 := bt hw3 (below_regrown wz dq osq)
                  replace hownz := own_on hownz (below_regrown wz dq osq)
                  clear F1 g0 g1 g2 hbc
                  generalize Sort.grow (redrawn wz dq) osq = w9 at hw3 hownz
                  clear hownz
                  have hz3 := (hw3.block w.heap.size hs2).trans hz2
                  obtain ⟨z0, z1, z2⟩ := trip_of (v := zeroV) hz3
                  have f0 := Lib.frozen_of_heap hz3 0
                  have f1 := Lib.frozen_of_heap hz3 1
                  have f2 := Lib.frozen_of_heap hz3 2
                  have hw4 := bt hb0 hw3
                  obtain ⟨hv, hr⟩ := Prod.mk.inj (unhide HE)
                  subst hv hr
                  clear hz3 HE H
                  go_wp2_with fail
                  refine bodyPost_ret (v := .tuple #[.agg #[.int .i64 0, .int .i64 0, .string ⟨#[]⟩], .int .i64 r]) (by simp [results, Try.results38, go_sem, z0, z1, z2]) rfl ?_
                  exact ⟨rfl, ((hw4.setCell (p := ⟨w.heap.size, 0, none⟩) (Nat.le_refl _) _).setCell (p := ⟨w.heap.size, 1, none⟩) (Nat.le_refl _) _).setCell (p := ⟨w.heap.size, 2, none⟩) (Nat.le_refl _) _⟩
              · have kx : (x.1 != 1) = false := by simpa using hx1
                have ky : (y.1 != 1) = true := by simpa using hy1'
                have HE := hide ((unhide H).symm.trans (runV_stop ((unhide HN).trans ((stepV_op (u := zeroV) (e := 3) (unhide HK1) (unhide HK2) (by simp [reckR, hy1'])).trans (if_neg (by decide))))))
                clear hx1 hy1' HN hownz
                have hz3 := (hw3.block w.heap.size hs2).trans hz2
                obtain ⟨z0, z1, z2⟩ := trip_of (v := zeroV) hz3
                have f0 := Lib.frozen_of_heap hz3 0
                have f1 := Lib.frozen_of_heap hz3 1
                have f2 := Lib.frozen_of_heap hz3 2
                have hw4 := bt hb0 hw3
                obtain ⟨hv, hr⟩ := Prod.mk.inj (unhide HE)
                subst hv hr
                clear hz3 HE H
                go_wp2_with fail
                refine bodyPost_ret (v := .tuple #[.agg #[.int .i64 0, .int .i64 0, .string ⟨#[]⟩], .int .i64 3]) (by simp [results, Try.results38, go_sem, z0, z1, z2]) rfl ?_
                exact ⟨rfl, ((hw4.setCell (p := ⟨w.heap.size, 0, none⟩) (Nat.le_refl _) _).setCell (p := ⟨w.heap.size, 1, none⟩) (Nat.le_refl _) _).setCell (p := ⟨w.heap.size, 2, none⟩) (Nat.le_refl _) _⟩
            · have kx : (x.1 != 1) = true := by simpa using hx1
              have HE := hide ((unhide H).symm.trans (runV_stop ((unhide HN).trans ((stepV_op (u := zeroV) (e := 3) (unhide HK1) (unhide HK2) (by simp [reckR, hx1])).trans (if_neg (by decide))))))
              clear hx1 HN hownz
              have hz3 := (hw3.block w.heap.size hs2).trans hz2
              obtain ⟨z0, z1, z2⟩ := trip_of (v := zeroV) hz3
              have f0 := Lib.frozen_of_heap hz3 0
              have f1 := Lib.frozen_of_heap hz3 1
              have f2 := Lib.frozen_of_heap hz3 2
              have hw4 := bt hb0 hw3
              obtain ⟨hv, hr⟩ := Prod.mk.inj (unhide HE)
              subst hv hr
              clear hz3 HE H
              go_wp2_with fail
              refine bodyPost_ret (v := .tuple #[.agg #[.int .i64 0, .int .i64 0, .string ⟨#[]⟩], .int .i64 3]) (by simp [results, Try.results38, go_sem, z0, z1, z2]) rfl ?_
              exact ⟨rfl, ((hw4.setCell (p := ⟨w.heap.size, 0, none⟩) (Nat.le_refl _) _).setCell (p := ⟨w.heap.size, 1, none⟩) (Nat.le_refl _) _).setCell (p := ⟨w.heap.size, 2, none⟩) (Nat.le_refl _) _⟩
    · obtain ⟨v', rfl, he⟩ := run_end (unhide HX) (show xs.length ≤ k by omega) (unhide HK)
      obtain ⟨hv, hr⟩ := Prod.mk.inj ((unhide H).symm.trans he)
      subst hv hr
      obtain ⟨g, hg, hBg, hgl, hn1, hnc, y0, y1, y2⟩ := own_at (i := 0) (x := v) hown rfl
      subst hg
      have hn1' : n = 1 := hn1
      subst hn1'
      simp only [Nat.zero_mul, Nat.zero_add] at y0 y1 y2
      obtain ⟨z0, z1, z2⟩ := trip_of (v := zeroV) hzr
      have f0 := Lib.frozen_of_heap hzr 0
      have f1 := Lib.frozen_of_heap hzr 1
      have f2 := Lib.frozen_of_heap hzr 2
      have hne : w.heap.size ≠ g := by omega
      have hne' : g ≠ w.heap.size := by omega
      clear he hown hn1 hn hzr
      go_wp2_with fail
      refine bodyPost_ret (v := .tuple #[.agg #[.int .i64 v.1, .int .i64 v.2.1, .string v.2.2], .int .i64 0]) (by simp [results, Try.results38, go_sem, z0, z1, z2]) rfl ?_
      exact ⟨rfl, ((hww.setCell (p := ⟨w.heap.size, 0, none⟩) (Nat.le_refl _) _).setCell (p := ⟨w.heap.size, 1, none⟩) (Nat.le_refl _) _).setCell (p := ⟨w.heap.size, 2, none⟩) (Nat.le_refl _) _⟩
end Go.Proofs.Ytakhcifhfbiopaa.Sb

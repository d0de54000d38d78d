/- What expr.Eval answers. -/
import Derived.Test.YtakhcifhfbiopaaExpG
namespace Go.Proofs.Ytakhcifhfbiopaa.Sb
open Go.RowKit
open V
open Ex (RowO LiesO flatO)
open N (doL)

theorem runV_next {b : List Bb} {l : List Oo} {k : Nat} {s : List Vv} (hk : k < l.length) (h : runV b [] (l.take k) = .ok s) : runV b [] (l.take (k + 1)) = stepV b s l[k] := by
  rw [List.take_succ_eq_append_getElem hk, runV_app, h]
  simp only [runV]
  cases stepV b s l[k] <;> rfl
theorem runV_stop {b : List Bb} {l : List Oo} {k : Nat} {e : Int} (h : runV b [] (l.take k) = .error e) : evalL b l = (zeroV, e) := by
  have := runV_app b (l.take k) (l.drop k) []
  rw [List.take_append_drop, h] at this
  unfold evalL
  rw [this]
/-- How many values there are behind the first k steps. -/
theorem run_count {b : List Bb} {l : List Oo} {k : Nat} {s : List Vv} (hx : exprB l = true) (h : runV b [] (l.take k) = .ok s) : s.length = dep l k := by
  have hr := (expr_iff.1 hx).2.2
  exact (runV_below (b := b) [] (t := []) (dep_run hr k)).2 s h
theorem dep_le {l : List Oo} (h : runD 0 l = some 1) : ∀ k, k ≤ l.length → dep l k ≤ k
  | 0, _ => by rw [dep_zero]; exact Nat.le_refl _
  | k + 1, hk => by
    have := dep_le h k (by omega)
    rcases dep_step h (show k < l.length by omega) with ⟨_, e⟩ | ⟨_, _, e⟩ <;> omega
theorem run_can {b : List Bb} {l : List Oo} {k : Nat} {s : List Vv} (hx : exprB l = true) (hk : k < l.length) (h : runV b [] (l.take k) = .ok s.reverse) : pushO l[k] = true ∨ pushO l[k] = false ∧ 2 ≤ s.length := by
  have hc := run_count hx h
  rw [List.length_reverse] at hc
  rcases dep_step (expr_iff.1 hx).2.2 hk with ⟨hp, _⟩ | ⟨hp, h2, _⟩
  · exact Or.inl hp
  · exact Or.inr ⟨hp, by omega⟩
theorem run_end {b : List Bb} {l : List Oo} {k : Nat} {s : List Vv} (hx : exprB l = true) (hk : l.length ≤ k) (h : runV b [] (l.take k) = .ok s.reverse) : ∃ v, s = [v] ∧ evalL b l = (v, 0) := by
  rw [List.take_of_length_le hk] at h
  rcases run_one (b := b) hx with ⟨v, hv⟩ | ⟨e, he⟩
  · rw [h] at hv
    simp only [Except.ok.injEq] at hv
    have hs : s = [v] := by
      have := congrArg List.reverse hv
      simpa using this
    refine ⟨v, hs, ?_⟩
    unfold evalL
    rw [h, hv]
  · rw [he] at h; cases h

theorem heap_lt {W : World} {b : Nat} {o : Obj} (h : W.heap[b]? = some o) : b < W.heap.size := (Array.getElem?_eq_some_iff.1 h).1
/-- Texts stay short. -/
theorem stepV_small {b : List Bb} {s t : List Vv} {o : Oo} (hb : ∀ x ∈ b, Lt x) (ho : LtO o) (hs : ∀ v ∈ s, v.2.2.size ≤ 200) (h : stepV b s o = .ok t) : ∀ v ∈ t, v.2.2.size ≤ 200 := by
  unfold stepV at h
  split at h
  · split at h
    · rename_i u hu
      cases h
      intro v hv
      rcases List.mem_cons.1 hv with rfl | hv
      · exact (hb _ (get_mem hu)).2
      · exact hs v hv
    · cases h
  · split at h
    · cases h
      intro v hv
      rcases List.mem_cons.1 hv with rfl | hv
      · exact ho.2
      · exact hs v hv
    · split at h
      · split at h
        · split at h
          · cases h
            intro v hv
            rcases List.mem_cons.1 hv with rfl | hv
            · exact (show (⟨#[]⟩ : ByteArray).size ≤ 200 by decide)
            · exact hs v (List.mem_cons_of_mem _ (List.mem_cons_of_mem _ hv))
          · cases h
        · cases h
      · cases h
theorem runV_small {b : List Bb} (hb : ∀ x ∈ b, Lt x) : ∀ {l : List Oo} {s t : List Vv}, (∀ o ∈ l, LtO o) → (∀ v ∈ s, v.2.2.size ≤ 200) → runV b s l = .ok t → ∀ v ∈ t, v.2.2.size ≤ 200
  | [], s, t, _, hs, h => by cases h; exact hs
  | o :: l, s, t, hl, hs, h => by
    simp only [runV] at h
    cases hv : stepV b s o with
    | error e => rw [hv] at h; cases h
    | ok u =>
      rw [hv] at h
      exact runV_small hb (fun x hx => hl x (List.mem_cons_of_mem _ hx)) (stepV_small hb (hl o (List.mem_cons_self ..)) hs hv) h

set_option maxHeartbeats 2000000 in
theorem eval_good (a : Option Addr) (len cap : Nat) (xs : List Oo) (a' : Option Addr) (len' cap' : Nat) (bs : List Bb) (v : Vv) (r : Int) (w : World) (hA : LiesO w a len cap xs) (hL : ∀ x ∈ xs, LtO x) (hB : Lies w a' len' cap' bs) (hLb : ∀ x ∈ bs, Lt x) (HX : Hid (exprB xs = true)) (HB : Hid (listB bs = true)) (H : Hid (evalL bs xs = (v, r))) :
    Calls Try.prog 22 #[.slice a len cap, .slice a' len' cap'] w fun e w' => e = .returned (.tuple #[.agg #[.int .i64 v.1, .int .i64 v.2.1, .string v.2.2], .int .i64 r]) ∧ Below w.heap.size w w' := by
  have h15 : len ≤ 15 := by have := (expr_iff.1 (unhide HX)).1.2; have := hA.len; omega
  have h100 : len' ≤ 100 := by have := list_len (unhide HB); have := hB.len; omega
  have hc := fun W (hb : Below w.heap.size w W) => echeck_any a len cap xs W (hA.on hb).row hA.le hA.ge hL (by omega)
  have hd := fun W (hb : Below w.heap.size w W) => scheck_any a' len' cap' bs W (hB.on hb).row hB.le hB.ge hLb
  have hb0 : Below w.heap.size w (w.alloc (bxV zeroV)) := (Below.refl _ _).alloc (Nat.le_refl _) _
  have hz := heap_alloc_new w (bxV zeroV)
  rw [chk_t (unhide HX)] at hc
  rw [chk_t (unhide HB)] at hd
  have F1 := hc _ hb0
  have hrow := hA.row
  have hl := hA.le
  have hl' := hA.ge
  have hrowb := hB.row
  have hm := hB.le
  have hm' := hB.ge
  have HL := hide hL
  have HLb := hide hLb
  clear hA hB hL hLb hc
  go_enter Try.func22, Try.ntmps22
  go_wp2_with fail
  refine F1.mono ?_
  rintro e w1 ⟨rfl, hb1⟩
  clear F1
  have hw1 := bt hb0 hb1
  have F2 := hd _ hw1
  have hz1 := (hb1.block w.heap.size (by simp)).trans hz
  have hs1 : w.heap.size < w1.heap.size := by have := hb1.size; simp at this; omega
  clear hd hb0 hb1 hz
  go_wp2_with fail
  refine F2.mono ?_
  rintro e w2 ⟨rfl, hb2⟩
  clear F2
  have hw2 := bt hw1 hb2
  have hz2 := (hb2.block w.heap.size hs1).trans hz1
  have hs2 : w.heap.size < w2.heap.size := by have := hb2.size; omega
  have hrow2 := hrow.on hw2
  have hrowb2 := hrowb.on hw2
  clear hz1 hb2 hw1 hs1
  go_wp2_with fail
  go_loopw [8, 27] (fun sv i wr => ∃ (k n c : Nat) (s : Option Addr) (st : List Vv), k ≤ len ∧ i = .int .i64 k ∧ sv = .slice s n c ∧ Hid (runV bs [] (xs.take k) = .ok st.reverse) ∧ wr.ownsRow w2.heap.size 23 3 (.slice s n c) n (flatV st) ∧ Below w2.heap.size w2 wr) (fun _ i _ => len - (intOf i).toNat)
  case atStart => exact ⟨0, 0, 0, none, [], Nat.zero_le _, rfl, rfl, hide (by simp [runV]), World.ownsRow_nil _ _ _ _, Below.refl _ _⟩
  case round =>
    obtain ⟨k, n, c, s, st, hk, rfl, rfl, HK, hown, hbw⟩ := hrel
    have hn : n = st.length := by have := hown.1; rw [flatV_len] at this; omega
    have hn15 : n ≤ 100 := by
      have h1 := run_count (unhide HX) (unhide HK)
      have h2 := dep_le (expr_iff.1 (unhide HX)).2.2 k (by omega)
      rw [List.length_reverse] at h1
      omega
    have hww := bt hw2 hbw
    have hzr := (hbw.block w.heap.size hs2).trans hz2
    by_cases hlt : k < len
    · obtain ⟨b, o, ha, hbl, c0, c1, c2, c3, c4⟩ := (hrow2.on hbw).up (show k < xs.length by omega)
      subst ha
      have hcan := run_can (unhide HX) (show k < xs.length by omega) (unhide HK)
      have hbx : Below w2.heap.size w2 (wr.alloc (bxO xs[k])) := hbw.alloc hbw.size _
      have HN := hide (runV_next (show k < xs.length by omega) (unhide HK))
      have F := step_any w2.heap.size s n c st xs[k] a' len' cap' bs (wr.alloc (bxO xs[k])) hbx.size hn15 (hown.alloc _) (hrowb2.on hbx) hm hm' (by omega) (unhide HLb) hcan
      clear hcan hn
      generalize xs[k] = t at c0 c1 c2 c3 c4 hbx HN F
      go_wp2_with fail
      refine F.mono ?_
      clear F
      rintro e w3 (⟨st', s', n', c', hst, rfl, hown', hb3⟩ | ⟨er, hst, hne, rfl, hb3⟩)
      · have HN' := hide ((unhide HN).trans hst)
        have hw3 := hbx.trans hb3
        clear hst HN hb3 hbx c0 c1 c2 c3 c4 hown
        go_wp2_with fail
        go_roundw
        case rel => exact ⟨k + 1, n', c', s', st', by omega, by go_num, rfl, HN', hown', hw3⟩
        case measure => simp [intOf]; omega
      · have HE := hide ((unhide H).symm.trans (runV_stop ((unhide HN).trans hst)))
        have hw3 := hbx.trans hb3
        have hw4 := bt hw2 hw3
        have hz3 := (hw3.block w.heap.size hs2).trans hz2
        obtain ⟨z0, z1, z2⟩ := trip_of (v := zeroV) hz3
        have f0 := Lib.frozen_of_heap hz3 0
        have f1 := Lib.frozen_of_heap hz3 1
        have f2 := Lib.frozen_of_heap hz3 2
        obtain ⟨hv, hr⟩ := Prod.mk.inj (unhide HE)
        subst hv hr
        clear hst HN hb3 hbx c0 c1 c2 c3 c4 hown hz3 hzr HE H
        go_wp2_with fail
        refine bodyPost_ret (v := .tuple #[.agg #[.int .i64 0, .int .i64 0, .string ⟨#[]⟩], .int .i64 r]) (by simp [results, Try.results22, go_sem, z0, z1, z2]) rfl ?_
        exact ⟨rfl, ((hw4.setCell (p := ⟨w.heap.size, 0, none⟩) (Nat.le_refl _) _).setCell (p := ⟨w.heap.size, 1, none⟩) (Nat.le_refl _) _).setCell (p := ⟨w.heap.size, 2, none⟩) (Nat.le_refl _) _⟩
    · obtain ⟨v', rfl, he⟩ := run_end (unhide HX) (show xs.length ≤ k by omega) (unhide HK)
      obtain ⟨hv, hr⟩ := Prod.mk.inj ((unhide H).symm.trans he)
      subst hv hr
      obtain ⟨g, hg, hBg, hgl, hn1, hnc, y0, y1, y2⟩ := own_at (i := 0) (x := v) hown rfl
      subst hg
      have hn1' : n = 1 := hn1
      subst hn1'
      simp only [Nat.zero_mul, Nat.zero_add] at y0 y1 y2
      have hvs : v.2.2.size ≤ 1000 := by
        have := runV_small (unhide HLb) (fun o ho => unhide HL o (List.mem_of_mem_take ho)) (by intro v hv; cases hv) (unhide HK) v (by simp)
        omega
      have hbx : Below wr.heap.size wr (wr.alloc (bxV v)) := (Below.refl _ _).alloc (Nat.le_refl _) _
      have hwb := bt hww hbx
      have k0 := heap_alloc_new wr (bxV v)
      have k1 := (hbx.block w.heap.size (heap_lt hzr)).trans hzr
      have hne' : w.heap.size ≠ wr.heap.size := by have := heap_lt hzr; omega
      have hlw : w.heap.size ≤ wr.heap.size := hww.size
      have hsw : wr.heap.size < (wr.alloc (bxV v)).heap.size := by simp
      clear he hown hn1 hn hzr
      go_wp2_with fail
      clear y0 y1 y2 hbx hBg hgl
      generalize wr.alloc (bxV v) = W at hwb k0 k1 hsw
      generalize wr.heap.size = p at k0 hne' hlw hsw
      refine (clone_any v.2.2 W hvs).mono ?_
      rintro e w3 ⟨rfl, hb3⟩
      have j0 := (hb3.block p hsw).trans k0
      have j1 := (hb3.block w.heap.size (by omega)).trans k1
      have hw3 := bt hwb hb3
      clear k0 k1 hwb hb3 hsw
      obtain ⟨x0, x1, x2⟩ := trip_of j0
      obtain ⟨z0, z1, z2⟩ := trip_of (v := zeroV) j1
      have g2 := Lib.frozen_of_heap j0 2
      have f0 := Lib.frozen_of_heap j1 0
      have f1 := Lib.frozen_of_heap j1 1
      have f2 := Lib.frozen_of_heap j1 2
      clear j0 j1
      go_wp2_with fail
      refine bodyPost_ret (v := .tuple #[.agg #[.int .i64 v.1, .int .i64 v.2.1, .string v.2.2], .int .i64 0]) (by simp [results, Try.results22, go_sem, z0, z1, z2]) rfl ?_
      exact ⟨rfl, (((hw3.setCell (p := ⟨p, 2, none⟩) hlw _).setCell (p := ⟨w.heap.size, 0, none⟩) (Nat.le_refl _) _).setCell (p := ⟨w.heap.size, 1, none⟩) (Nat.le_refl _) _).setCell (p := ⟨w.heap.size, 2, none⟩) (Nat.le_refl _) _⟩

/-- What Eval answers, whatever it is handed. -/
theorem eval_any (a : Option Addr) (len cap : Nat) (xs : List Oo) (a' : Option Addr) (len' cap' : Nat) (bs : List Bb) (v : Vv) (r : Int) (w : World) (hA : LiesO w a len cap xs) (hL : ∀ x ∈ xs, LtO x) (h1k : len ≤ 1000) (hB : Lies w a' len' cap' bs) (hLb : ∀ x ∈ bs, Lt x) (H : Hid (evalR bs xs = (v, r))) :
    Calls Try.prog 22 #[.slice a len cap, .slice a' len' cap'] w fun e w' => e = .returned (.tuple #[.agg #[.int .i64 v.1, .int .i64 v.2.1, .string v.2.2], .int .i64 r]) ∧ Below w.heap.size w w' := by
  have h := unhide H
  unfold evalR at h
  by_cases hx : exprB xs = true
  · by_cases hb : listB bs = true
    · rw [if_pos ⟨hx, hb⟩] at h
      exact eval_good a len cap xs a' len' cap' bs v r w hA hL hB hLb (hide hx) (hide hb) (hide h)
    · rw [if_neg (fun q => hb q.2)] at h
      cases h
      exact eval_bad a len cap xs a' len' cap' bs w hA hL h1k hB hLb (Or.inr ⟨hx, by simpa using hb⟩)
  · rw [if_neg (fun q => hx q.1)] at h
    cases h
    exact eval_bad a len cap xs a' len' cap' bs w hA hL h1k hB hLb (Or.inl (by simpa using hx))
end Go.Proofs.Ytakhcifhfbiopaa.Sb

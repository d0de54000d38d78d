/- The walk of constablelaw07.ExprPut: it answers true, whatever the steps, the values. -/
import Derived.Test.YtnomndpoklolfaaExpW
import Derived.Test.YtnomndpoklolfaaExpJ
namespace Go.Proofs.Ytnomndpoklolfaa.Sb
open Go.RowKit
open V
open Ex (RowO LiesO flatO flatO_len flatO_app flatO_oneCell liesO_own liesO_none)

/-- How far the values have gone in. -/
def curO (bs : List Bb) (xs : List Oo) (k : Nat) : List Oo := (xs.take k).map (putO bs) ++ xs.drop k
theorem cur_zero (bs : List Bb) (xs : List Oo) : curO bs xs 0 = xs := by simp [curO]
theorem cur_end {bs : List Bb} {xs : List Oo} {k : Nat} (h : xs.length ≤ k) : curO bs xs k = xs.map (putO bs) := by simp [curO, List.take_of_length_le h, List.drop_eq_nil_of_le h]
theorem cur_len (bs : List Bb) (xs : List Oo) (k : Nat) : (curO bs xs k).length = xs.length := by simp [curO]; omega
theorem cur_at {bs : List Bb} {xs : List Oo} {k : Nat} (h : k < xs.length) : (curO bs xs k)[k]? = some xs[k] := by
  unfold curO
  rw [List.getElem?_append_right (by simp; omega)]
  simp [show min k xs.length = k by omega, h]
theorem cur_set {bs : List Bb} {xs : List Oo} {k : Nat} (h : k < xs.length) : (curO bs xs k).set k (putO bs xs[k]) = curO bs xs (k + 1) := by
  unfold curO
  have hA : ((xs.take k).map (putO bs)).length = k := by simp; omega
  rw [List.set_append_right _ _ (by omega), hA, Nat.sub_self, List.drop_eq_getElem_cons h, List.set_cons_zero, List.take_succ_eq_append_getElem h, List.map_append, List.map_singleton, List.append_assoc, List.singleton_append]
theorem cur_same {bs : List Bb} {xs : List Oo} {k : Nat} (h : k < xs.length) (e : putO bs xs[k] = xs[k]) : curO bs xs k = curO bs xs (k + 1) := by
  rw [← cur_set h, e]
  have := cur_at (bs := bs) h
  rw [List.getElem?_eq_some_iff] at this
  obtain ⟨h1, h2⟩ := this
  conv => rhs; rw [← h2]
  rw [List.set_getElem_self]
theorem put_no {bs : List Bb} {o : Oo} (h : o.1 ≠ 1) : putO bs o = o := by unfold putO; rw [if_neg h]
theorem put_none {bs : List Bb} {o : Oo} (h : getL bs o.2.1 = none) : putO bs o = o := by unfold putO; rw [h]; split <;> rfl
theorem put_some {bs : List Bb} {o : Oo} {v : Vv} (h1 : o.1 = 1) (h : getL bs o.2.1 = some v) : putO bs o = (2, ⟨#[]⟩, v) := by unfold putO; rw [if_pos h1, h]
theorem cur_put {bs : List Bb} {xs : List Oo} {k : Nat} {v : Vv} (h : k < xs.length) (h1 : xs[k].1 = 1) (hg : getL bs xs[k].2.1 = some v) : (curO bs xs k).set k (2, ⟨#[]⟩, v) = curO bs xs (k + 1) := by
  rw [← cur_set h, put_some h1 hg]
theorem bound_no {bs : List Bb} {o : Oo} (h1 : o.1 = 1) (hg : getL bs o.2.1 = none) : ¬ boundO bs o := by
  intro h
  obtain ⟨v, hv⟩ := h h1
  rw [hg] at hv
  cases hv
theorem put_lt {bs : List Bb} (hb : ∀ x ∈ bs, Lt x) {o : Oo} (h : LtO o) : LtO (putO bs o) := by
  unfold putO
  split
  · split
    · rename_i v hv
      exact ⟨Nat.zero_le _, (hb _ (get_mem hv)).2⟩
    · exact h
  · exact h
theorem lt_map {bs : List Bb} (hb : ∀ x ∈ bs, Lt x) {xs : List Oo} (h : ∀ x ∈ xs, LtO x) : ∀ x ∈ xs.map (putO bs), LtO x := by
  intro x hx
  obtain ⟨o, ho, rfl⟩ := List.mem_map.1 hx
  exact put_lt hb (h o ho)
theorem flatO_set (ys : List Oo) (k : Nat) (x : Oo) (hk : k < ys.length) : (((((flatO ys).set (k * 5) (.int .i64 x.1)).set (k * 5 + 1) (.string x.2.1)).set (k * 5 + 2) (.int .i64 x.2.2.1)).set (k * 5 + 3) (.int .i64 x.2.2.2.1)).set (k * 5 + 4) (.string x.2.2.2.2) = flatO (ys.set k x) := by
  induction ys generalizing k with
  | nil => simp at hk
  | cons y r ih =>
    cases k with
    | zero => simp [flatO]
    | succ k =>
      have := ih k (by simpa using hk)
      rw [show (k + 1) * 5 = k * 5 + 1 + 1 + 1 + 1 + 1 by omega]
      simp only [flatO, List.set_cons_succ]
      rw [this]
/-- All that have a value so far. -/
def AllB (bs : List Bb) (xs : List Oo) (k : Nat) (q : Bool) : Prop := q = true ↔ ∀ o ∈ xs.take k, boundO bs o
theorem allB_zero (bs : List Bb) (xs : List Oo) : AllB bs xs 0 true := by simp [AllB]
theorem allB_yes {bs : List Bb} {xs : List Oo} {k : Nat} {q : Bool} (hk : k < xs.length) (h : AllB bs xs k q) (hb : boundO bs xs[k]) : AllB bs xs (k + 1) q := by
  unfold AllB at h ⊢
  rw [h, List.take_succ_eq_append_getElem hk]
  constructor
  · intro h1 o ho
    rcases List.mem_append.1 ho with ho | ho
    · exact h1 o ho
    · rw [List.mem_singleton.1 ho]; exact hb
  · intro h1 o ho
    exact h1 o (List.mem_append.2 (Or.inl ho))
theorem allB_no {bs : List Bb} {xs : List Oo} {k : Nat} (hk : k < xs.length) (hb : ¬ boundO bs xs[k]) : AllB bs xs (k + 1) false := by
  unfold AllB
  rw [List.take_succ_eq_append_getElem hk]
  constructor
  · intro h; cases h
  · intro h
    exact absurd (h xs[k] (List.mem_append.2 (Or.inr (List.mem_singleton.2 rfl)))) hb
/-- A step of a row that the call owns. -/
theorem ownO_at {w : World} {B n cs : Nat} {s : Option Addr} {st : List Oo} (h : w.ownsRow B 44 5 (.slice s n cs) n (flatO st)) {i : Nat} {x : Oo} (hx : st[i]? = some x) : ∃ g, s = some ⟨g, 0, none⟩ ∧ B ≤ g ∧ g < w.heap.size ∧ n = st.length ∧ n ≤ cs ∧ w.cell? ⟨g, i * 5, none⟩ = some (.int .i64 x.1) ∧ w.cell? ⟨g, i * 5 + 1, none⟩ = some (.string x.2.1) ∧ w.cell? ⟨g, i * 5 + 2, none⟩ = some (.int .i64 x.2.2.1) ∧ w.cell? ⟨g, i * 5 + 3, none⟩ = some (.int .i64 x.2.2.2.1) ∧ w.cell? ⟨g, i * 5 + 4, none⟩ = some (.string x.2.2.2.2) := by
  have hn : n = st.length := by have := h.1; rw [flatO_len] at this; omega
  have hi : i < n := by rw [hn]; exact (List.getElem?_eq_some_iff.1 hx).1
  rcases h.2 with ⟨hv, h0⟩ | ⟨g, cap, cur, hv, hB, hg, hc, _, _, ht⟩
  · omega
  · simp only [Value.slice.injEq] at hv
    obtain ⟨rfl, _, rfl⟩ := hv
    obtain ⟨h0, h1, h2, h3, h4⟩ := Ex.flatO_get st i x hx
    rw [← ht] at h0 h1 h2 h3 h4
    rw [List.getElem?_take_of_lt (by omega), Array.getElem?_toList] at h0 h1 h2 h3 h4
    refine ⟨g, rfl, hB, (Array.getElem?_eq_some_iff.1 hg).1, hn, hc, ?_⟩
    rw [Lib.cell_of_heap hg, Lib.cell_of_heap hg, Lib.cell_of_heap hg, Lib.cell_of_heap hg, Lib.cell_of_heap hg]
    exact ⟨h0, h1, h2, h3, h4⟩
theorem evalR_yes {b : List Bb} {l : List Oo} (h : exprB l = true) (k : listB b = true) : evalR b l = evalL b l := by
  unfold evalR
  rw [if_pos ⟨h, k⟩]
theorem put_both {bs : List Bb} {xs ys : List Oo} {k : Nat} {v u : Vv} {e1 e2 : Int} (HY : Hid (xs.map (putO bs) = ys)) (HX : Hid (exprB xs = true)) (HQ : Hid (AllB bs xs k true)) (hk : xs.length ≤ k) (HV : Hid (evalL bs xs = (v, e1))) (HU : Hid (evalL [] ys = (u, e2))) : u = v ∧ e2 = e1 ∧ (varsO ys).length = 0 := by
  have hq := (unhide HQ).1 rfl
  rw [List.take_of_length_le hk] at hq
  have h := put_eval hq
  rw [unhide HY, unhide HV, unhide HU] at h
  have h2 := Prod.mk.inj h
  refine ⟨h2.1, h2.2, ?_⟩
  have h3 := put_vars (unhide HX) hq
  rw [unhide HY] at h3
  rw [h3]; rfl
theorem put_neither {bs : List Bb} {xs ys : List Oo} {k : Nat} {v u : Vv} {e1 e2 : Int} (HY : Hid (xs.map (putO bs) = ys)) (HX : Hid (exprB xs = true)) (HB : Hid (listB bs = true)) (HQ : Hid (AllB bs xs k false)) (HV : Hid (evalL bs xs = (v, e1))) (HU : Hid (evalL [] ys = (u, e2))) : e1 ≠ 0 ∧ e2 ≠ 0 := by
  have hq : ¬ ∀ o ∈ xs, boundO bs o := fun h => by
    have := (unhide HQ).2 (fun o ho => h o (List.mem_of_mem_take ho))
    cases this
  have h1 := eval_unbound (unhide HX) hq
  have h2 := put_unbound (unhide HB) (unhide HX) hq
  rw [unhide HV] at h1
  rw [unhide HY, unhide HU] at h2
  exact ⟨h1, h2⟩

set_option maxHeartbeats 40000000 in
set_option maxRecDepth 100000 in
theorem put_law (a1 : Option Addr) (l1 c1 : Nat) (xs : List Oo) (am : Option Addr) (lm cm : Nat) (bs : List Bb) (w : World) (hx : LiesO w a1 l1 c1 xs) (hz : Lies w am lm cm bs) :
    Calls Try.prog 5 #[.slice a1 l1 c1, .slice am lm cm] w fun e w' => e = .returned (.bool true) ∧ Below w.heap.size w w' := by
  have hm1 := oheavy_any a1 l1 c1 xs w hx.row hx.le hx.ge
  go_enter Try.func5, Try.ntmps5
  go_wp2_with fail
  refine hm1.mono ?_
  rintro e w1 ⟨rfl | ⟨rfl, h40, hLx⟩, hb1⟩
  · clear hm1
    go_wp2_with fail
    go_ret
    exact ⟨rfl, hb1⟩
  have hz1 := hz.on hb1
  have hm3 := heavy_any am lm cm bs w1 hz1.row hz1.le hz1.ge
  clear hm1 hz1
  go_wp2_with fail
  refine hm3.mono ?_
  rintro e w3 ⟨rfl | ⟨rfl, h110, hLb⟩, hb3⟩
  · have hw3 := bt hb1 hb3
    clear hm3
    go_wp2_with fail
    go_ret
    exact ⟨rfl, hw3⟩
  have hw3 := bt hb1 hb3
  have HLx := hide hLx
  have HLb := hide hLb
  clear hm3 hb1 hb3 hLx hLb
  have hx3 := hx.on hw3
  obtain ⟨q, hq⟩ : ∃ q, exprB xs = q := ⟨_, rfl⟩
  have F := refExpr_any a1 l1 c1 xs w3 hx3.row hx3.le hx3.ge (unhide HLx)
  rw [hq] at F
  go_wp2_with fail
  refine F.mono ?_
  rintro e w4 ⟨rfl, hb4⟩
  have hw4 := bt hw3 hb4
  clear F hx3 hw3 hb4
  cases q with
  | false =>
    go_wp2_with fail
    go_ret
    exact ⟨rfl, hw4⟩
  | true =>
  have HX := hide hq
  clear hq
  have hz5 := hz.on hw4
  obtain ⟨q, hq⟩ : ∃ q, listB bs = q := ⟨_, rfl⟩
  have F := refBinds_any am lm cm bs w4 hz5.row hz5.le hz5.ge (unhide HLb)
  rw [hq] at F
  go_wp2_with fail
  refine F.mono ?_
  rintro e w6 ⟨rfl, hb6⟩
  have hw6 := bt hw4 hb6
  clear F hz5 hw4 hb6
  cases q with
  | false =>
    go_wp2_with fail
    go_ret
    exact ⟨rfl, hw6⟩
  | true =>
  have HB := hide hq
  clear hq
  go_wp2_with fail
  refine (twinO_any a1 l1 c1 xs w6 (hx.on hw6) (by omega)).mono ?_
  rintro e w7 ⟨qi, ci, rfl, hI, hb7⟩
  have h15 : l1 ≤ 15 := by rw [hx.len]; exact (expr_iff.1 (unhide HX)).1.2
  have h1 : 1 ≤ l1 := by rw [hx.len]; exact (expr_iff.1 (unhide HX)).1.1
  have hB : w.heap.size ≤ w6.heap.size := hw6.size
  clear h40
  go_wp2_with fail
  --TAIL
  have hlx := hide hx.len
  have hw7 := hb7
  obtain ⟨g, hg, hBg, -, -, hlc, -⟩ := ownO_at hI (i := 0) (x := xs[0]'(by have := hx.len; omega)) (by simp)
  subst hg
  have hI0 : w7.ownsRow w6.heap.size 44 5 (.slice (some ⟨g, 0, none⟩) l1 ci) l1 (flatO (curO bs xs 0)) := by rw [cur_zero]; exact hI
  have HBG := hide hBg
  clear hI hBg
  go_loopw [6, 7] (fun q i wr => ∃ (k : Nat) (qb : Bool), k ≤ l1 ∧ i = .int .i64 k ∧ q = .bool qb ∧ Hid (AllB bs xs k qb) ∧ wr.ownsRow w6.heap.size 44 5 (.slice (some ⟨g, 0, none⟩) l1 ci) l1 (flatO (curO bs xs k)) ∧ Below w6.heap.size w6 wr) (fun _ i _ => l1 - (intOf i).toNat)
  case atStart => exact ⟨0, true, Nat.zero_le _, rfl, rfl, hide (allB_zero bs xs), hI0, hb7⟩
  case round =>
    clear hI0 hb7 hw7
    obtain ⟨k, qb, hk, rfl, rfl, HQ, hown, hbw⟩ := hrel
    by_cases hlt : k < l1
    · have hkx : k < xs.length := by have := unhide hlx; omega
      obtain ⟨g', hg', -, hgl, -, -, c0, c1, c2, c3, c4⟩ := ownO_at hown (cur_at (bs := bs) hkx)
      simp only [Option.some.injEq, Addr.mk.injEq, and_true] at hg'
      subst hg'
      have HKX := hide hkx
      by_cases hv1 : xs[k].1 = 1
      · have d1 : (xs[k].1 != 1) = false := by simp [hv1]
        have hzr := hz.on (bt hw6 hbw)
        cases hg : getL bs xs[k].2.1 with
        | none =>
          have HQ' : Hid (AllB bs xs (k + 1) false) := hide (allB_no hkx (bound_no hv1 hg))
          have hown' := hown
          rw [cur_same hkx (put_none hg)] at hown'
          have F := refGet_any am lm cm bs xs[k].2.1 (0, 0, ⟨#[]⟩) false wr hzr.row hzr.le hzr.ge (by omega) (hide (getR_none hg))
          clear hv1 hown HQ hg hzr
          generalize xs[k] = t at c0 c1 c2 c3 c4 d1 F
          go_wp2_with fail
          refine F.mono ?_
          rintro e w8 ⟨rfl, hb8⟩
          have hbx : Below w8.heap.size w8 (w8.alloc (bxV (0, 0, ⟨#[]⟩))) := (Below.refl _ _).alloc (Nat.le_refl _) _
          have hbw8 := bt (bt hbw hb8) hbx
          have hown8 := own_on (own_on hown' hb8) hbx
          clear F hown' hbw hb8 hbx c0 c1 c2 c3 c4 d1
          cases qb with
          | true =>
            go_wp2_with fail
            go_roundw
            case rel => exact ⟨k + 1, false, by omega, by go_num, rfl, HQ', hown8, hbw8⟩
            case measure => simp [intOf]; omega
          | false =>
            go_wp2_with fail
            go_roundw
            case rel => exact ⟨k + 1, false, by omega, by go_num, rfl, HQ', hown8, hbw8⟩
            case measure => simp [intOf]; omega
        | some v =>
          have HQ' : Hid (AllB bs xs (k + 1) qb) := hide (allB_yes hkx (unhide HQ) (fun _ => ⟨v, hg⟩))
          have hset : Hid ((((((flatO (curO bs xs k)).set (k * 5) (.int .i64 2)).set (k * 5 + 1) (.string ⟨#[]⟩)).set (k * 5 + 2) (.int .i64 v.1)).set (k * 5 + 3) (.int .i64 v.2.1)).set (k * 5 + 4) (.string v.2.2) = flatO (curO bs xs (k + 1))) := hide ((flatO_set (curO bs xs k) k (2, ⟨#[]⟩, v) (by rw [cur_len]; exact hkx)).trans (congrArg flatO (cur_put hkx hv1 hg)))
          have F := refGet_any am lm cm bs xs[k].2.1 v true wr hzr.row hzr.le hzr.ge (by omega) (hide (getR_some hg))
          clear hv1 HQ hg hzr
          generalize xs[k] = t at c0 c1 c2 c3 c4 d1 F
          go_wp2_with fail
          refine F.mono ?_
          rintro e w8 ⟨rfl, hb8⟩
          have hbx : Below w8.heap.size w8 (w8.alloc (bxV v)) := (Below.refl _ _).alloc (Nat.le_refl _) _
          have hbw8 := bt (bt hbw hb8) hbx
          have hown8 := own_on (own_on hown hb8) hbx
          obtain ⟨x0, x1, x2⟩ := trip_of (heap_alloc_new w8 (bxV v))
          have z0 := cell_on hbx (cell_on hb8 c0)
          have z1 := cell_on hbx (cell_on hb8 c1)
          have z2 := cell_on hbx (cell_on hb8 c2)
          have z3 := cell_on hbx (cell_on hb8 c3)
          have z4 := cell_on hbx (cell_on hb8 c4)
          have hlt8 : w8.heap.size ≠ g := by have := cell_lt (cell_on hb8 c0); omega
          clear F hown hbw hb8 hbx c0 c1 c2 c3 c4 d1
          have f0 := hown8.frozenAt (k * 5)
          have f1 := hown8.frozenAt (k * 5 + 1)
          have f2 := hown8.frozenAt (k * 5 + 2)
          have f3 := hown8.frozenAt (k * 5 + 3)
          have f4 := hown8.frozenAt (k * 5 + 4)
          have o1 := hown8.stored (k * 5) (.int .i64 2)
          have o2 := o1.1.stored (k * 5 + 1) (.string ⟨#[]⟩)
          have o3 := o2.1.stored (k * 5 + 2) (.int .i64 v.1)
          have o4 := o3.1.stored (k * 5 + 3) (.int .i64 v.2.1)
          have o5 := o4.1.stored (k * 5 + 4) (.string v.2.2)
          have hown9 := o5.1
          rw [unhide hset] at hown9
          have hbw9 := ((((hbw8.setCell (p := ⟨g, k * 5, none⟩) (unhide HBG) (.int .i64 2)).setCell (p := ⟨g, k * 5 + 1, none⟩) (unhide HBG) (.string ⟨#[]⟩)).setCell (p := ⟨g, k * 5 + 2, none⟩) (unhide HBG) (.int .i64 v.1)).setCell (p := ⟨g, k * 5 + 3, none⟩) (unhide HBG) (.int .i64 v.2.1)).setCell (p := ⟨g, k * 5 + 4, none⟩) (unhide HBG) (.string v.2.2)
          clear o1 o2 o3 o4 o5 hown8 hbw8 hset
          cases qb with
          | true =>
            go_wp2_with fail
            go_roundw
            case rel => exact ⟨k + 1, true, by omega, by go_num, rfl, HQ', hown9, hbw9⟩
            case measure => simp [intOf]; omega
          | false =>
            go_wp2_with fail
            go_roundw
            case rel => exact ⟨k + 1, false, by omega, by go_num, rfl, HQ', hown9, hbw9⟩
            case measure => simp [intOf]; omega
      · have HQ' : Hid (AllB bs xs (k + 1) qb) := hide (allB_yes hkx (unhide HQ) (fun h => absurd h hv1))
        have hown' := hown
        rw [cur_same hkx (put_no hv1)] at hown'
        have d1 : (xs[k].1 != 1) = true := by simp [hv1]
        clear hv1 hown HQ
        generalize xs[k] = t at c0 c1 c2 c3 c4 d1
        go_wp2_with fail
        go_roundw
        case rel => exact ⟨k + 1, qb, by omega, by go_num, rfl, HQ', hown', hbw⟩
        case measure => simp [intOf]; omega
    · obtain rfl : k = l1 := by omega
      have hkx : xs.length ≤ k := by have := unhide hlx; omega
      have hL := liesO_own hown
      rw [cur_end hkx] at hL
      obtain ⟨ys, hys⟩ : ∃ ys, xs.map (putO bs) = ys := ⟨_, rfl⟩
      rw [hys] at hL
      have HY := hide hys
      have HLy : Hid (∀ x ∈ ys, LtO x) := hide (by rw [← hys]; exact lt_map (unhide HLb) (unhide HLx))
      have HXY : Hid (exprB ys = true) := hide (by rw [← hys]; exact put_expr (unhide HB) (unhide HX))
      have hwr := bt hw6 hbw
      obtain ⟨⟨v, e1⟩, hv⟩ : ∃ r, evalL bs xs = r := ⟨_, rfl⟩
      obtain ⟨⟨u, e2⟩, hu⟩ : ∃ r, evalL [] ys = r := ⟨_, rfl⟩
      have HV := hide hv
      have HU := hide hu
      have HKX := hide hkx
      clear hv hu hys hown hbw hlt hk hlx hkx
      go_wp2_with fail
      refine (eval_any a1 k c1 xs am lm cm bs v e1 wr (hx.on hwr) (unhide HLx) (by omega) (hz.on hwr) (unhide HLb) (hide ((evalR_yes (unhide HX) (unhide HB)).trans (unhide HV)))).mono ?_
      rintro e wa ⟨rfl, hba⟩
      have hbx : Below wa.heap.size wa (wa.alloc (bxV v)) := (Below.refl _ _).alloc (Nat.le_refl _) _
      have hwa := bt (bt hwr hba) hbx
      have hLa := (hL.on hba).on hbx
      obtain ⟨x0, x1, x2⟩ := trip_of (heap_alloc_new wa (bxV v))
      clear hL hba hbx hwr
      go_wp2_with fail
      generalize wa.alloc (bxV v) = W1 at hwa hLa x0 x1 x2
      generalize wa.heap.size = b1 at x0 x1 x2
      refine (eval_any (some ⟨g, 0, none⟩) k ci ys none 0 0 [] u e2 W1 hLa (unhide HLy) (by omega) (lies_none _) (by intro x hx; cases hx) (hide ((evalR_yes (unhide HXY) rfl).trans (unhide HU)))).mono ?_
      rintro e wb ⟨rfl, hbb⟩
      have hbx : Below wb.heap.size wb (wb.alloc (bxV u)) := (Below.refl _ _).alloc (Nat.le_refl _) _
      have hwb := bt (bt hwa hbb) hbx
      have hLb := (hLa.on hbb).on hbx
      replace x0 := cell_on hbx (cell_on hbb x0)
      replace x1 := cell_on hbx (cell_on hbb x1)
      replace x2 := cell_on hbx (cell_on hbb x2)
      obtain ⟨y0, y1, y2⟩ := trip_of (heap_alloc_new wb (bxV u))
      clear hLa hbb hbx hwa
      cases qb with
      | false =>
        obtain ⟨n1, n2⟩ := put_neither HY HX HB HQ HV HU
        have g1 : (e1 != 0) = true := by simp [n1]
        have g2 : (e2 != 0) = true := by simp [n2]
        clear n1 n2
        go_wp2_with fail
        refine (wakes_any _).mono ?_
        rintro e wc ⟨rfl, hbc⟩
        have hwc := bt hwb hbc
        clear hbc hwb x0 x1 x2 y0 y1 y2 g1 g2
        go_wp2_with fail
        go_ret
        exact ⟨rfl, hwc⟩
      | true =>
        obtain ⟨rfl, rfl, hvl⟩ := put_both HY HX HQ (unhide HKX) HV HU
        have HVL := hide hvl
        have hE := eqV0 u u
        rw [decide_eq_true rfl] at hE
        have g1 : (e2 == e2) = true := beq_self_eq_true _
        clear hvl
        go_wp2_with fail
        generalize wb.alloc (bxV u) = W2 at hwb hLb x0 x1 x2 y0 y1 y2
        refine (ovars_k (some ⟨g, 0, none⟩) k ci ys 0 W2 (unhide HLy) hLb (by omega) HVL).mono ?_
        rintro e wc ⟨q3, c3, rfl, -, hbc, -⟩
        have hwc := bt hwb hbc
        clear hbc hwb x0 x1 x2 y0 y1 y2 g1 hE hLb
        go_wp2_with fail
        refine (wakes_any _).mono ?_
        rintro e wd ⟨rfl, hbd⟩
        have hwd := bt hwc hbd
        clear hbd hwc
        go_wp2_with fail
        go_ret
        exact ⟨rfl, hwd⟩
end Go.Proofs.Ytnomndpoklolfaa.Sb

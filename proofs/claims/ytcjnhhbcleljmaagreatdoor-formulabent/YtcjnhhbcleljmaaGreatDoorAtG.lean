/- What atoms.Expr answers. -/
import Derived.Test.YtcjnhhbcleljmaaGreatDoorAtA
import Derived.Test.YtcjnhhbcleljmaaGreatDoorAtoI
import Derived.Test.YtcjnhhbcleljmaaGreatDoorBasE
namespace Go.Proofs.YtcjnhhbcleljmaaGreatDoor.Sb
open Go.RowKit
open V
open Ex (RowO LiesO flatO)

theorem infoS : (Tryz.prog.info? 9).map (fun i => (i.zero, i.size, i.bytes)) = some (some (.string ⟨#[]⟩), 1, 16) := by kernel_rfl
abbrev strs (st : List ByteArray) : List Value := st.map Value.string
abbrev txt (st : List ByteArray) : List (List UInt8) := (st.map (fun z : ByteArray => z.data.toList)).reverse
/-- A text of a row that the call owns. -/
theorem ownS_at {w : World} {B n cs : Nat} {s : Option Addr} {st : List ByteArray} (h : w.ownsRow B 9 1 (.slice s n cs) n (strs st)) {i : Nat} {x : ByteArray} (hx : st[i]? = some x) : ∃ g, s = some ⟨g, 0, none⟩ ∧ B ≤ g ∧ g < w.heap.size ∧ n = st.length ∧ n ≤ cs ∧ w.cell? ⟨g, i, none⟩ = some (.string x) := by
  have hn : n = st.length := by have := h.1; simp at this; omega
  have hi : i < n := by rw [hn]; exact (List.getElem?_eq_some_iff.1 hx).1
  rcases h.2 with ⟨hv, h0⟩ | ⟨g, cap, cur, hv, hB, hg, hc, _, _, ht⟩
  · omega
  · simp only [Value.slice.injEq] at hv
    obtain ⟨rfl, _, rfl⟩ := hv
    have h0 : (strs st)[i]? = some (.string x) := by rw [strs, List.getElem?_map, hx]; rfl
    rw [← ht] at h0
    rw [List.getElem?_take_of_lt (by omega), Array.getElem?_toList] at h0
    refine ⟨g, rfl, hB, (Array.getElem?_eq_some_iff.1 hg).1, hn, hc, ?_⟩
    rw [Lib.cell_of_heap hg]
    exact h0
theorem txt_snoc (st : List ByteArray) (z : ByteArray) : txt (st ++ [z]) = z.data.toList :: txt st := by simp [txt]
theorem txt_two (st : List ByteArray) (y z : ByteArray) : txt (st ++ [y, z]) = z.data.toList :: y.data.toList :: txt st := by simp [txt]
theorem push_same {o : Oo} (h : rightO o = true) (hp : pushO o = true) : (o.2.1, o.2.2) = termO o := by
  obtain ⟨k, v, x⟩ := o
  have hk : k = 1 ∨ k = 2 := by simpa [pushO] using hp
  unfold rightO at h
  rcases hk with rfl | rfl
  · simp only [if_true, Bool.and_eq_true, decide_eq_true_eq] at h
    simp only [termO, if_true]
    rw [h.2]
  · have hz : v.size = 0 ∧ rightVv x = true := by simpa using h
    simp only [termO]
    rw [if_neg (by decide), empty_of hz.1]
theorem mark_cat (x y m : ByteArray) (k : Int) (hm : (⟨#[markO k]⟩ : ByteArray) = m) (o : Oo) (ho : o.1 = k) : (((((((⟨#[40]⟩ : ByteArray) ++ x) ++ ⟨#[32]⟩) ++ m) ++ ⟨#[32]⟩) ++ y) ++ ⟨#[41]⟩).data.toList = nodeL o x.data.toList y.data.toList := by
  subst hm
  simp [ByteArray.data_append, nodeL, ho]
/-- The last two. -/
theorem last_two {α : Type} {st : List α} (h : 2 ≤ st.length) : ∃ (r : List α) (x y : α), st = r ++ [x, y] := by
  have h1 : st ≠ [] := by rintro rfl; simp at h
  obtain ⟨i, y, rfl⟩ : ∃ i y, st = i ++ [y] := ⟨_, _, (List.dropLast_concat_getLast h1).symm⟩
  have h2 : i ≠ [] := by rintro rfl; simp at h
  obtain ⟨r, x, rfl⟩ : ∃ r x, i = r ++ [x] := ⟨_, _, (List.dropLast_concat_getLast h2).symm⟩
  exact ⟨r, x, y, by simp⟩

set_option maxHeartbeats 1000000 in
set_option maxRecDepth 100000 in
theorem expr_wrong' (a : Option Addr) (len cap : Nat) (xs : List Oo) (w : World) (hA : LiesO w a len cap xs) (hL : ∀ x ∈ xs, LtO x) (h20 : len ≤ 20000) (H : Hid (exprB xs = false)) :
    Calls Tryz.prog 155 #[.slice a len cap] w fun e w' => e = .returned (.tuple #[.string ⟨#[]⟩, .int .i64 1]) ∧ Below w.heap.size w w' := by
  have hc := echeck_any a len cap xs w hA.row hA.le hA.ge hL h20
  rw [unhide H] at hc
  clear hA hL H
  go_enter Tryz.func155, Tryz.ntmps155
  go_wp2_with fail
  refine hc.mono ?_
  rintro e w1 ⟨rfl, hb1⟩
  clear hc
  rw [show chk false = 1 from rfl]
  go_wp2_with fail
  refine bodyPost_ret (v := .tuple #[.string ⟨#[]⟩, .int .i64 1]) (by simp [results, Tryz.results155, go_sem]) rfl ?_
  exact ⟨rfl, hb1⟩

set_option maxHeartbeats 2000000 in
set_option maxRecDepth 100000 in
theorem expr_right (a : Option Addr) (len cap : Nat) (xs : List Oo) (s : ByteArray) (w : World) (he : Env w) (hA : LiesO w a len cap xs) (hL : ∀ x ∈ xs, LtO x) (H : Hid (exprB xs = true)) (HS : Hid ((⟨(textX xs).toArray⟩ : ByteArray) = s)) :
    Calls Tryz.prog 155 #[.slice a len cap] w fun e w' => e = .returned (.tuple #[.string s, .int .i64 0]) ∧ Below w.heap.size w w' := by
  have hx := expr_iff.1 (unhide H)
  have hl1 := hA.le
  have hl2 := hA.ge
  have h15 : len ≤ 15 := by omega
  have hc := echeck_any a len cap xs w hA.row hA.le hA.ge hL (by omega)
  rw [unhide H] at hc
  have HX := hide hx
  clear hx H hL
  go_enter Tryz.func155, Tryz.ntmps155
  go_wp2_with fail
  refine hc.mono ?_
  rintro e w1 ⟨rfl, hb1⟩
  clear hc
  rw [show chk true = 0 from rfl]
  obtain ⟨i0, hi, hz0, hz1, hz2⟩ := info_parts infoS
  go_wp2_with fail
  go_loopw [5, 17] (fun sv i wr => ∃ (k n c : Nat) (q : Option Addr) (st : List ByteArray), k ≤ len ∧ i = .int .i64 k ∧ sv = .slice q n c ∧ Hid (stkL (xs.take k) = txt st) ∧ wr.ownsRow w1.heap.size 9 1 (.slice q n c) n (strs st) ∧ Below w1.heap.size w1 wr) (fun _ i _ => len - (intOf i).toNat)
  case atStart => exact ⟨0, 0, 0, none, [], Nat.zero_le _, rfl, rfl, hide rfl, World.ownsRow_nil _ _ _ _, Below.refl _ _⟩
  case round =>
    obtain ⟨k, n, c, q, st, hk, rfl, rfl, HK, hown, hbw⟩ := hrel
    have hn : n = st.length := by have := hown.1; simp at this; omega
    have hcnt : st.length = dep xs k := by
      rw [← stkL_len (unhide HX).2.2 k, unhide HK]; simp [txt]
    have hn15 : n ≤ 15 := by
      have := dep_le (unhide HX).2.2 k (by omega)
      omega
    by_cases hlt : k < len
    · obtain ⟨b, o, ha, hbl, c0, c1, c2, c3, c4⟩ := (hA.row.on (bt hb1 hbw)).up (show k < xs.length by omega)
      subst ha
      have hbx : Below w1.heap.size w1 (wr.alloc (bxO xs[k])) := hbw.alloc hbw.size _
      have hown0 := hown.alloc (bxO xs[k])
      have HN := hide (stkL_next (show k < xs.length by omega))
      have hro := (unhide HX).2.1 xs[k] (List.getElem_mem (by omega))
      have hsz : ∀ z ∈ st, z.size ≤ 1900 := by
        intro z hz
        have h1 := stk_one (k := k) (unhide HX).2.1 (by omega) z.data.toList (by rw [unhide HK]; simp only [txt, List.mem_reverse, List.mem_map]; exact ⟨z, hz, rfl⟩)
        rw [size_list] at h1; exact h1
      cases hp : pushO xs[k] with
      | true =>
        have hkk : xs[k].1 = 1 ∨ xs[k].1 = 2 := by simpa [pushO] using hp
        have hsame := push_same hro hp
        have HT : Hid (rightT (xs[k].2.1, xs[k].2.2) = true) := hide (by rw [hsame]; exact term_right hro hp)
        obtain ⟨z, hz⟩ : ∃ z : ByteArray, z = ⟨(bytesT (xs[k].2.1, xs[k].2.2)).toArray⟩ := ⟨_, rfl⟩
        have HN' : Hid (stkL (xs.take (k + 1)) = txt (st ++ [z])) := hide (by rw [unhide HN, unhide HK, stepF_push hp, txt_snoc, hz, hsame])
        have HZ := hide hz.symm
        clear HN hro hp hcnt hn hsz hsame hz
        generalize xs[k] = t at c0 c1 c2 c3 c4 hbx hown0 hkk HT HZ
        obtain ⟨tk, tv, tx⟩ := t
        simp only at hkk HT HZ c0 c1 c2 c3 c4
        rcases hkk with rfl | rfl
        all_goals
          go_wp2_with fail
          refine (termText_any (tv, tx) z _ (he.on (bt hb1 hbx)) HT HZ).mono ?_
          rintro e w2 ⟨rfl, hb2⟩
          have hw2 := hbx.trans (hb2.mono hbx.size)
          have hown2 := own_on hown0 hb2
          have hsz2 : w1.heap.size ≤ w2.heap.size := hw2.size
          clear hbx hb2 hown0 hown c0 c1 c2 c3 c4 hbw
          go_wp2_with (at_builtin; refine wpList_append_own _ rfl _ _ 75 rfl w1.heap.size 9 i0 (.string ⟨#[]⟩) 1 16 Tryz.underlying75 hi hz0 hz1 hz2 rfl (by decide) _ _ _ rfl (hown2.alloc _) ⟨w2.heap.size, 0, none⟩ 1 1 [.string z] rfl rfl (cell_one_new _ _ _) (by simp [Value.oneCell']) (by unfold maxLen; omega) (by omega) (by simp; omega) ?_; intro v' w3 hown3 hgrow3 hnil3)
          obtain ⟨aq, cq, rfl⟩ := own_slice hown3
          have hw3 := (hw2.alloc hw2.size (.cells #[.string z] 9)).grown hgrow3 (by simp; omega) (fun j hj => by have := (hown2.lt j hj).1; omega)
          clear hgrow3 hnil3 hown2
          go_wp2_with fail
          go_roundw
          case rel => exact ⟨k + 1, n + 1, cq, aq, st ++ [z], by omega, by go_num, rfl, HN', by simpa [strs] using hown3, hw3⟩
          case measure => simp [intOf]; omega
      | false =>
        have hd2 : 2 ≤ st.length := by
          rcases dep_step (unhide HX).2.2 (show k < xs.length by omega) with ⟨h, _⟩ | ⟨_, h, _⟩
          · rw [hp] at h; cases h
          · omega
        obtain ⟨r, x, y, rfl⟩ := last_two hd2
        have hx19 := hsz x (by simp)
        have hy19 := hsz y (by simp)
        obtain ⟨m, hm⟩ : ∃ m, n = m + 2 := ⟨n - 2, by simp at hn; omega⟩
        subst hm
        have hmr : m = r.length := by simp at hn; omega
        obtain ⟨g, hg, -, -, -, hnc, y0⟩ := ownS_at (i := m) (x := x) hown (by rw [hmr]; simp)
        subst hg
        obtain ⟨g', hg', -, -, -, -, y1⟩ := ownS_at (i := m + 1) (x := y) hown (by rw [hmr]; simp)
        simp only [Option.some.injEq, Addr.mk.injEq, and_true] at hg'
        subst hg'
        have hc2 := own_cut hown0 (show m ≤ m + 2 by omega)
        rw [show (strs (r ++ [x, y])).take (m * 1) = strs r by rw [hmr]; simp [strs]] at hc2
        have hkn : ¬ xs[k].1 = 1 ∧ ¬ xs[k].1 = 2 := by simpa [pushO] using hp
        obtain ⟨mk, hmk⟩ : ∃ mk : ByteArray, (⟨#[markO xs[k].1]⟩ : ByteArray) = mk := ⟨_, rfl⟩
        have hmk1 : mk.size = 1 := by rw [← hmk]; rfl
        obtain ⟨z, hz⟩ : ∃ z : ByteArray, z = ((((((⟨#[40]⟩ : ByteArray) ++ x) ++ ⟨#[32]⟩) ++ mk) ++ ⟨#[32]⟩) ++ y) ++ ⟨#[41]⟩ := ⟨_, rfl⟩
        have HN' : Hid (stkL (xs.take (k + 1)) = txt (r ++ [z])) := hide (by
          rw [unhide HN, unhide HK, txt_two, stepF_node hp, txt_snoc, hz, mark_cat x y mk _ hmk xs[k] rfl])
        have HMK := hide hmk
        clear HN hro hp hcnt hn hsz hd2 hmr HK hmk
        generalize xs[k] = t at c0 c1 c2 c3 c4 hbx hown0 hkn HMK hc2
        obtain ⟨tk, tv, tx⟩ := t
        simp only at hkn HMK c0 c1 c2 c3 c4
        have k1 : (tk == 1) = false := by rw [beq_eq_false_iff_ne]; exact hkn.1
        have k2 : (tk == 2) = false := by rw [beq_eq_false_iff_ne]; exact hkn.2
        clear hkn
        have hgl := cell_lt y0
        have z0 := cell_on (show Below wr.heap.size wr (wr.alloc (bxO (tk, tv, tx))) from (Below.refl _ _).alloc (Nat.le_refl _) _) y0
        have z1 := cell_on (show Below wr.heap.size wr (wr.alloc (bxO (tk, tv, tx))) from (Below.refl _ _).alloc (Nat.le_refl _) _) y1
        have e1 : (m : Int) + 2 - 2 = m := by omega
        go_wp2_with fail
        go_quiet (first | (go_at_call 192; refine Calls.quiet_of_same (amark_any _ _ _ HMK)))
        rw [← hz]
        clear hz
        have hown2 := own_on hc2 (below_drewN (Below.refl _ _) nq)
        have hw2 : Below w1.heap.size w1 ((wr.alloc (bxO (tk, tv, tx))).drewN nq) := below_drewN hbx nq
        have hlw2 : w1.heap.size ≤ ((wr.alloc (bxO (tk, tv, tx))).drewN nq).heap.size := hw2.size
        generalize (wr.alloc (bxO (tk, tv, tx))).drewN nq = W2 at hown2 hw2 hlw2 ⊢
        clear hown hown0 hc2 y0 y1 z0 z1 c0 c1 c2 c3 c4 hbx hbw
        go_wp2_with (at_builtin; refine wpList_append_own _ rfl _ _ 75 rfl w1.heap.size 9 i0 (.string ⟨#[]⟩) 1 16 Tryz.underlying75 hi hz0 hz1 hz2 rfl (by decide) _ _ _ rfl (hown2.alloc _) ⟨W2.heap.size, 0, none⟩ 1 1 [.string z] rfl rfl (cell_one_new _ _ _) (by simp [Value.oneCell']) (by unfold maxLen; omega) (by omega) (by simp; omega) ?_; intro v' w3 hown3 hgrow3 hnil3)
        obtain ⟨aq, cq, rfl⟩ := own_slice hown3
        have hw3 := (hw2.alloc hw2.size (.cells #[.string z] 9)).grown hgrow3 (by simp; omega) (fun j hj => by have := (hown2.lt j hj).1; omega)
        clear hgrow3 hnil3 hown2 hw2
        go_wp2_with fail
        go_roundw
        case rel => exact ⟨k + 1, m + 1, cq, aq, r ++ [z], by omega, by go_num, rfl, HN', by simpa [strs] using hown3, hw3⟩
        case measure => simp [intOf]; omega
    · have hE : stkL xs = [textX xs] := stkL_end (unhide HX).2.2
      have hte : xs.take k = xs := List.take_of_length_le (by omega)
      have h1 := unhide HK
      rw [hte, hE] at h1
      obtain ⟨z, rfl⟩ : ∃ z, st = [z] := by
        match st, h1 with
        | [], h1 => simp [txt] at h1
        | [z], _ => exact ⟨z, rfl⟩
        | z :: y :: r, h1 =>
          have := congrArg List.length h1
          simp [txt] at this
      have hzs : z = s := by
        rw [← unhide HS]
        refine str_of' _ ?_
        simpa [txt] using h1.symm
      obtain ⟨g, hg, -, hgl, hn1, hnc, y0⟩ := ownS_at (i := 0) (x := z) hown rfl
      have hn1' : n = 1 := hn1
      subst hg hn1' hzs
      clear hn1
      have hww := bt hb1 hbw
      clear hown hn hcnt h1 hE hte HK HS hn15
      go_wp2_with fail
      refine bodyPost_ret (v := .tuple #[.string z, .int .i64 0]) (by simp [results, Tryz.results155, go_sem]) rfl ?_
      exact ⟨rfl, hww⟩
end Go.Proofs.YtcjnhhbcleljmaaGreatDoor.Sb

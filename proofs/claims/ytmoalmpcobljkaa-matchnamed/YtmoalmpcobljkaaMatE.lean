/- What match.Ground answers. -/
import Derived.Test.YtmoalmpcobljkaaMatD
namespace Go.Proofs.Ytmoalmpcobljkaa.Sb
open Go.RowKit
open V

theorem flatV_snoc (vs : List Vb) (v : Vb) : flatV (vs ++ [v]) = flatV vs ++ [.int .i64 v.k, .int .i64 v.n, .string v.s] := by
  induction vs with
  | nil => rfl
  | cons x r ih => simp [flatV, ih]
theorem gr_no1 {n : ByteArray} {ts l : List Bb} (h : rightA n ts = false) : grR n ts l = (⟨#[]⟩, [], 1) := if_neg (by rw [h]; simp)
theorem gr_no2 {n : ByteArray} {ts l : List Bb} (h : listB l = false) : grR n ts l = (⟨#[]⟩, [], 1) := if_neg (by rw [h]; simp)
theorem gr_none {n : ByteArray} {ts l : List Bb} (h1 : rightA n ts = true) (h2 : listB l = true) (h : groundL l ts = none) : grR n ts l = (⟨#[]⟩, [], 5) := by
  unfold grR; rw [if_pos ⟨h1, h2⟩, h]
theorem gr_some {n : ByteArray} {ts l : List Bb} {vs : List Vv} (h1 : rightA n ts = true) (h2 : listB l = true) (h : groundL l ts = some vs) : grR n ts l = (n, vs, 0) := by
  unfold grR; rw [if_pos ⟨h1, h2⟩, h]
theorem scheck_x (a : Option Addr) (len cap : Nat) (xs : List Bb) (n : Int) (w : World) (hx : Lies w a len cap xs) (hL : ∀ x ∈ xs, Lt x) (H : Hid (chk (listB xs) = n)) :
    Calls Try.prog 23 #[.slice a len cap] w fun e w' => e = .returned (.int .i64 n) ∧ Below w.heap.size w w' := by
  have := scheck_any a len cap xs w hx.row hx.le hx.ge hL
  rw [unhide H] at this
  exact this
theorem three_new (w : World) (v : Vv) : ∀ j u, [Value.int .i64 v.1, .int .i64 v.2.1, .string v.2.2][j]? = some u → (w.alloc (bxV v)).cell? ((⟨w.heap.size, 0, none⟩ : Addr).add j) = some u := by
  intro j u h
  match j, h with
  | 0, h => simp at h; subst h; simp [Addr.add]
  | 1, h => simp at h; subst h; simp [Addr.add]
  | 2, h => simp at h; subst h; simp [Addr.add]
  | j + 3, h => simp at h
theorem three_one (v : Vv) : ∀ u ∈ [Value.int .i64 v.1, .int .i64 v.2.1, .string v.2.2], u.oneCell' = true := by
  intro u h
  simp only [List.mem_cons, List.not_mem_nil, or_false] at h
  rcases h with rfl | rfl | rfl <;> rfl

theorem alloc_cell {w : World} {b k : Nat} (o : Obj) (hb : b < w.heap.size) : (w.alloc o).cell? ⟨b, k, none⟩ = w.cell? ⟨b, k, none⟩ := by
  have h := Lib.alloc_old w o b hb
  unfold World.cell?
  rw [h]
theorem two_sets {W : World} {b : Nat} {x y x' y' : Value} {o : Obj} (hb : b < W.heap.size) (h0 : W.cell? ⟨b, 0, none⟩ = some x') (h1 : W.cell? ⟨b, 1, none⟩ = some y') :
    (((W.setCell ⟨b, 0, none⟩ x).setCell ⟨b, 1, none⟩ y).alloc o).cell? ⟨b, 0, none⟩ = some x ∧ (((W.setCell ⟨b, 0, none⟩ x).setCell ⟨b, 1, none⟩ y).alloc o).cell? ⟨b, 1, none⟩ = some y := by
  have g1 : (W.setCell ⟨b, 0, none⟩ x).cell? ⟨b, 1, none⟩ = some y' := by rw [World.cell?_setCell_other _ _ _ _ (by simp)]; exact h1
  refine ⟨?_, ?_⟩
  · rw [alloc_cell _ (by simpa using hb), World.cell?_setCell_other _ _ _ _ (by simp), World.cell?_setCell_same _ _ _ h0]
  · rw [alloc_cell _ (by simpa using hb), World.cell?_setCell_same _ _ _ g1]
theorem rowV_set {w : World} {q : Option Addr} {vs : List Vb} {b k : Nat} {x : Value} (h : RowV w q vs) (hne : ∀ g o, q = some ⟨g, o, none⟩ → g ≠ b) : RowV (w.setCell ⟨b, k, none⟩ x) q vs := by
  rcases h with h | ⟨g, o, rfl, hlt, hc⟩
  · exact Or.inl h
  · have hg := hne g o rfl
    refine Or.inr ⟨g, o, rfl, by simpa using hlt, fun i v hv => ?_⟩
    obtain ⟨h0, h1, h2⟩ := hc i v hv
    refine ⟨?_, ?_, ?_⟩
    · rw [World.cell?_setCell_other _ _ _ _ (by intro e; injection e with e; exact hg e.symm)]; exact h0
    · rw [World.cell?_setCell_other _ _ _ _ (by intro e; injection e with e; exact hg e.symm)]; exact h1
    · rw [World.cell?_setCell_other _ _ _ _ (by intro e; injection e with e; exact hg e.symm)]; exact h2

set_option maxHeartbeats 8000000 in
set_option maxRecDepth 100000 in
theorem ground_any (n : ByteArray) (a : Option Addr) (len cap : Nat) (ts : List Bb) (la : Option Addr) (ln lc : Nat) (xs : List Bb) (gn : ByteArray) (gs : List Vv) (r : Int) (w : World) (hn : n.size ≤ 200) (hT : ∀ t ∈ ts, Lt t) (hA : Lies w a len cap ts) (h20 : len ≤ 20)
    (hx : Lies w la ln lc xs) (h1k : ln ≤ 400) (hL : ∀ x ∈ xs, Lt x) (H : Hid (grR n ts xs = (gn, gs, r))) :
    Calls Try.prog 10 #[.agg #[.string n, .slice a len cap], .slice la ln lc] w fun e w' => ∃ (q : Option Addr) (m c : Nat), e = .returned (.tuple #[.agg #[.string gn, .slice q m c], .int .i64 r]) ∧ RowV w' q (gs.map vb) ∧ m = gs.length ∧ Below w.heap.size w w' := by
  have hb0 : Below w.heap.size w ((w.alloc (bxA n a len cap)).alloc (.cells #[.string ⟨#[]⟩, .slice none 0 0] 27)) := ((Below.refl _ _).alloc (Nat.le_refl _) _).alloc (by simp) _
  have k1 := heap_alloc_new (w.alloc (bxA n a len cap)) (.cells #[.string ⟨#[]⟩, .slice none 0 0] 27)
  rw [show (w.alloc (bxA n a len cap)).heap.size = w.heap.size + 1 by simp] at k1
  have k0 : ((w.alloc (bxA n a len cap)).alloc (.cells #[.string ⟨#[]⟩, .slice none 0 0] 27)).heap[w.heap.size]? = some (bxA n a len cap) :=
    (Lib.alloc_old _ _ _ (by simp)).trans (heap_alloc_new w _)
  have hsz : w.heap.size + 1 < ((w.alloc (bxA n a len cap)).alloc (.cells #[.string ⟨#[]⟩, .slice none 0 0] 27)).heap.size := by simp
  have HP := hide hA.len
  cases hra : rightA n ts with
  | false =>
    obtain ⟨rfl, h2⟩ := Prod.mk.inj ((gr_no1 hra).symm.trans (unhide H))
    obtain ⟨rfl, rfl⟩ := Prod.mk.inj h2
    have hc := acheck_x n a len cap ts 1 _ hn hT (hA.on hb0) h20 (hide (chk_f hra))
    clear H hra h2
    go_enter Try.func10, Try.ntmps10
    go_wp2_with fail
    refine hc.mono ?_
    rintro e w1 ⟨rfl, hb1⟩
    have hw1 := bt hb0 hb1
    have j1 := (hb1.block (w.heap.size + 1) hsz).trans k1
    clear hc hb1 hb0 k0 k1 hsz
    obtain ⟨z0, z1⟩ := pair_of j1
    have f0 := Lib.frozen_of_heap j1 0
    have f1 := Lib.frozen_of_heap j1 1
    go_wp2_with fail
    refine bodyPost_ret (v := .tuple #[.agg #[.string ⟨#[]⟩, .slice none 0 0], .int .i64 1]) (by simp [results, Try.results10, go_sem, z0, z1]) rfl ?_
    exact ⟨none, 0, 0, rfl, Or.inl rfl, rfl, (hw1.setCell (p := ⟨w.heap.size + 1, 0, none⟩) (Nat.le_succ _) _).setCell (p := ⟨w.heap.size + 1, 1, none⟩) (Nat.le_succ _) _⟩
  | true =>
    have hc := acheck_x n a len cap ts 0 _ hn hT (hA.on hb0) h20 (hide (chk_t hra))
    have HRA := hide hra
    clear hra
    go_enter Try.func10, Try.ntmps10
    go_wp2_with fail
    refine hc.mono ?_
    rintro e w1 ⟨rfl, hb1⟩
    have hw1 := bt hb0 hb1
    have j1 := (hb1.block (w.heap.size + 1) hsz).trans k1
    have j0 := (hb1.block w.heap.size (by omega)).trans k0
    have hs1 : w.heap.size + 1 < w1.heap.size := by have := hb1.size; omega
    clear hc hb1 hb0 k0 k1 hsz
    cases hls : listB xs with
    | false =>
      obtain ⟨rfl, h2⟩ := Prod.mk.inj ((gr_no2 hls).symm.trans (unhide H))
      obtain ⟨rfl, rfl⟩ := Prod.mk.inj h2
      have hc := scheck_x la ln lc xs 1 _ (hx.on hw1) hL (hide (chk_f hls))
      clear H hls h2
      go_wp2_with fail
      refine hc.mono ?_
      rintro e w2 ⟨rfl, hb2⟩
      have hw2 := bt hw1 hb2
      replace j1 := (hb2.block (w.heap.size + 1) hs1).trans j1
      clear hc hb2 hw1 j0 hs1
      obtain ⟨z0, z1⟩ := pair_of j1
      have f0 := Lib.frozen_of_heap j1 0
      have f1 := Lib.frozen_of_heap j1 1
      go_wp2_with fail
      refine bodyPost_ret (v := .tuple #[.agg #[.string ⟨#[]⟩, .slice none 0 0], .int .i64 1]) (by simp [results, Try.results10, go_sem, z0, z1]) rfl ?_
      exact ⟨none, 0, 0, rfl, Or.inl rfl, rfl, (hw2.setCell (p := ⟨w.heap.size + 1, 0, none⟩) (Nat.le_succ _) _).setCell (p := ⟨w.heap.size + 1, 1, none⟩) (Nat.le_succ _) _⟩
    | true =>
      have hc := scheck_x la ln lc xs 0 _ (hx.on hw1) hL (hide (chk_t hls))
      have HLS := hide hls
      clear hls
      go_wp2_with fail
      refine hc.mono ?_
      rintro e w2 ⟨rfl, hb2⟩
      have hw2 := bt hw1 hb2
      replace j1 := (hb2.block (w.heap.size + 1) hs1).trans j1
      replace j0 := (hb2.block w.heap.size (by omega)).trans j0
      have hs2 : w.heap.size + 1 < w2.heap.size := by have := hb2.size; omega
      clear hc hb2 hw1 hs1
      obtain ⟨a0, a1⟩ := pair_of j0
      go_wp2_with fail
      refine (growV_any len w2 (by omega)).mono ?_
      rintro e w3 ⟨ao, cp, rfl, hown, hb3⟩
      replace a1 := cell_on hb3 a1
      obtain ⟨i0, hi, hz0, hz1, hz2⟩ := info_parts infoV
      go_wp2_with fail
      go_loopw [8, 10, 11, 12, 32] (fun v _ _ _ i wr => ∃ (k c : Nat) (q : Option Addr) (vs : List Vv), k ≤ len ∧ i = .int .i64 k ∧ v = .slice q k c ∧ wr.ownsRow w2.heap.size 40 3 (.slice q k c) k (flatV (vs.map vb)) ∧ Hid (groundL xs (ts.take k) = some vs) ∧ Below w2.heap.size w2 wr) (fun _ _ _ _ i _ => len - (intOf i).toNat)
      case atStart => exact ⟨0, cp, ao, [], Nat.zero_le _, rfl, rfl, hown, hide rfl, hb3⟩
      case round =>
        obtain ⟨k, c, q, vs, hk, rfl, rfl, hM, HG, hbw⟩ := hrel
        have hww := bt hw2 hbw
        have hsr := hbw.size
        have jr := (hbw.block (w.heap.size + 1) hs2).trans j1
        by_cases hlt : k < len
        · have hkt : k < ts.length := by rw [← unhide HP]; exact hlt
          obtain ⟨b, o, ha, hbl, c0, c1, c2, c3⟩ := (hA.on hww).row.up hkt
          subst ha
          have hLt := hT ts[k] (List.getElem_mem hkt)
          obtain ⟨⟨v, okk⟩, hu⟩ : ∃ r, voR ts[k] xs = r := ⟨_, rfl⟩
          cases okk with
          | false =>
            obtain ⟨rfl, h2⟩ := Prod.mk.inj ((gr_none (unhide HRA) (unhide HLS) (ground_fail hkt hu)).symm.trans (unhide H))
            obtain ⟨rfl, rfl⟩ := Prod.mk.inj h2
            have HU := hide hu
            clear hu h2 H HG
            generalize ts[k] = t at c0 c1 c2 c3 hLt HU
            have hbx : Below w.heap.size w (wr.alloc (bxT t)) := hww.alloc hww.size _
            have hbx0 : Below wr.heap.size wr (wr.alloc (bxT t)) := (Below.refl _ _).alloc (Nat.le_refl _) _
            go_wp2_with fail
            refine (valueOf_any t la ln lc xs v false _ hLt (hx.on hbx) (by omega) hL HU).mono ?_
            rintro e w4 ⟨rfl, hb4⟩
            have hw4 := bt hbx hb4
            have j4 := ((bt hbx0 hb4).block (w.heap.size + 1) (by omega)).trans jr
            have hs4 : w.heap.size + 1 < w4.heap.size := by have := (bt hbx0 hb4).size; omega
            clear c0 c1 c2 c3 hb4 hbx hbx0 jr hM HU
            obtain ⟨z0, z1⟩ := pair_of j4
            have f0 := Lib.frozen_of_heap j4 0
            have f1 := Lib.frozen_of_heap j4 1
            clear j4
            go_wp2_with fail
            have T2 := two_sets (x := .string ⟨#[]⟩) (y := .slice none 0 0) (o := bxV v) hs4 z0 z1
            refine bodyPost_ret (v := .tuple #[.agg #[.string ⟨#[]⟩, .slice none 0 0], .int .i64 5]) (by simp [results, Try.results10, go_sem, T2.1, T2.2]) rfl ?_
            exact ⟨none, 0, 0, rfl, Or.inl rfl, rfl, ((hw4.setCell (p := ⟨w.heap.size + 1, 0, none⟩) (Nat.le_succ _) _).setCell (p := ⟨w.heap.size + 1, 1, none⟩) (Nat.le_succ _) _).alloc (by simp; omega) _⟩
          | true =>
            have HN := hide (ground_next hkt (unhide HG) hu)
            have HU := hide hu
            clear hu HG
            generalize ts[k] = t at c0 c1 c2 c3 hLt HU
            have hbx : Below w.heap.size w (wr.alloc (bxT t)) := hww.alloc hww.size _
            have hbx2 : Below w2.heap.size w2 (wr.alloc (bxT t)) := hbw.alloc hbw.size _
            have hM1 := hM.alloc (bxT t)
            go_wp2_with fail
            refine (valueOf_any t la ln lc xs v true _ hLt (hx.on hbx) (by omega) hL HU).mono ?_
            rintro e w4 ⟨rfl, hb4⟩
            have hM4 := (own_on hM1 hb4).alloc (bxV v)
            have hw4 := bt hbx2 hb4
            have hs4 := hw4.size
            have HF : Hid (flatV ((vs ++ [v]).map vb) = flatV (vs.map vb) ++ [.int .i64 v.1, .int .i64 v.2.1, .string v.2.2]) := hide (by rw [List.map_append]; exact flatV_snoc _ _)
            clear c0 c1 c2 c3 hb4 hbx hbx2 jr hM hM1 HU
            obtain ⟨v0, v1, v2⟩ := trip_of (heap_alloc_new w4 (bxV v))
            go_wp2_with (at_builtin; refine wpList_append_own _ rfl _ _ 25 rfl w2.heap.size 40 i0 (.agg #[.int .i64 0, .int .i64 0, .string ⟨#[]⟩]) 3 32 Try.underlying25 hi hz0 hz1 hz2 rfl (by decide) _ _ _ rfl (hM4.alloc (bxV v)) ⟨w4.heap.size + 1, 0, none⟩ 1 1 [.int .i64 v.1, .int .i64 v.2.1, .string v.2.2] rfl rfl ?c1 ?c2 ?c3 ?c4 ?c5 ?_)
            case c1 => have := three_new (w4.alloc (bxV v)) v; simpa using this
            case c2 => exact three_one v
            case c3 => unfold maxLen; omega
            case c4 => omega
            case c5 => simp; omega
            intro v' w5 hown5 hgrow hnil5
            obtain ⟨q5, cq5, rfl⟩ := own_slice hown5
            have hbw5 : Below w2.heap.size w2 w5 := ((hw4.alloc hw4.size (bxV v)).alloc (by simp; omega) (bxV v)).grown hgrow (by simp; omega) (fun m hm => (hM4.lt m hm).1)
            clear hgrow hnil5 v0 v1 v2 hM4
            go_wp2_with fail
            go_roundw
            case rel => exact ⟨k + 1, cq5, q5, vs ++ [v], by omega, by go_num, rfl, by rw [unhide HF]; exact hown5, HN, hbw5⟩
            case measure => simp [intOf]; omega
        · have HE : Hid (groundL xs ts = some vs) := by
            have h := unhide HG
            rw [List.take_of_length_le (by rw [← unhide HP]; omega)] at h
            exact h
          obtain ⟨rfl, h2⟩ := Prod.mk.inj ((gr_some (unhide HRA) (unhide HLS) (unhide HE)).symm.trans (unhide H))
          obtain ⟨rfl, rfl⟩ := Prod.mk.inj h2
          clear HG HE H h2
          have a0r := cell_on hbw a0
          go_wp2_with fail
          refine (clone_any n _ (by omega)).mono ?_
          rintro e w4 ⟨rfl, hb4⟩
          have hM4 := own_on hM hb4
          have hw4 := bt hww hb4
          have j4 := (hb4.block (w.heap.size + 1) (by omega)).trans jr
          have hkv : k = vs.length := by have := hM.1; rw [flat_len, List.length_map] at this; omega
          have HKV := hide hkv
          clear hb4 jr hM a0r hkv
          obtain ⟨z0, z1⟩ := pair_of j4
          have f0 := Lib.frozen_of_heap j4 0
          have f1 := Lib.frozen_of_heap j4 1
          clear j4
          go_wp2_with fail
          refine bodyPost_ret (v := .tuple #[.agg #[.string n, .slice q k c], .int .i64 0]) (by simp [results, Try.results10, go_sem, z0, z1]) rfl ?_
          have hq : ∀ g o, q = some ⟨g, o, none⟩ → g ≠ w.heap.size + 1 := by
            rintro g o rfl
            have := (hM4.lt g rfl).1
            omega
          have hrv : RowV w4 q (vs.map vb) := rowV_own hM4 (by rw [List.length_map]; exact unhide HKV)
          exact ⟨q, k, c, rfl, rowV_set (rowV_set hrv hq) hq, unhide HKV, (hw4.setCell (p := ⟨w.heap.size + 1, 0, none⟩) (Nat.le_succ _) _).setCell (p := ⟨w.heap.size + 1, 1, none⟩) (Nat.le_succ _) _⟩
end Go.Proofs.Ytmoalmpcobljkaa.Sb

/- What subst.Both and subst.Put answer. -/
import Derived.Test.YtmoalmpcobljkaaSubH
import Derived.Test.YtmoalmpcobljkaaSubI
namespace Go.Proofs.Ytmoalmpcobljkaa.Sb
open Go.RowKit
open V

/-- What is left of two right lists, sorted and squeezed, is right just if what they are together is, and is that. -/
theorem gs_un {xs ys zs gs : List Bb} (hp : zs.Perm (xs ++ ys)) (hs : zs.Pairwise (fun x y => byV x y ≤ 0)) (hq : Sq zs zs.length gs) : (listB gs = true → gs = unL xs ys) ∧ (listB (unL xs ys) = true → gs = unL xs ys) := by
  have hm : ∀ x, x ∈ gs ↔ x ∈ xs ∨ x ∈ ys := fun x => by
    rw [hq.1 x, List.take_length, hp.mem_iff, List.mem_append]
  constructor
  · intro h
    exact (un_eq (list_rise h) hm).symm
  · intro h
    have hz : zs.Pairwise (fun x y => cmpB x y ≤ 0) := by
      refine List.Pairwise.imp_of_mem (fun {x y} hx hy hxy => ?_) hs
      by_cases e : byV x y = 0
      · have hx' := mem_un.2 (List.mem_append.1 (hp.mem_iff.1 hx))
        have hy' := mem_un.2 (List.mem_append.1 (hp.mem_iff.1 hy))
        have := list_one h hx' hy' (byV_zero.1 e)
        rw [this, self_zero ord_bind]
        exact Int.le_refl _
      · have t := byV_tri x y
        rw [cmpB_of (by omega)]
        omega
    exact (un_eq (hq.2 hz) hm).symm
theorem gs_list {xs ys zs gs : List Bb} (hp : zs.Perm (xs ++ ys)) (hs : zs.Pairwise (fun x y => byV x y ≤ 0)) (hq : Sq zs zs.length gs) : listB gs = listB (unL xs ys) := by
  obtain ⟨h1, h2⟩ := gs_un hp hs hq
  cases h : listB gs with
  | true => rw [← h1 h, h]
  | false =>
    cases k : listB (unL xs ys) with
    | true => rw [h2 k, k] at h; cases h
    | false => rfl

theorem clone_k (g : Nat) (s : ByteArray) (w : World) (hs : s.size ≤ 1000) (hg : g < w.heap.size) :
    Calls Try.prog 26 #[.string s] w fun e w' => e = .returned (.string s) ∧ Below w.heap.size w w' ∧ (∀ b o v, w.cell? ⟨b, o, none⟩ = some v → w'.cell? ⟨b, o, none⟩ = some v) ∧ (∀ o, w.frozen? ⟨g, o, none⟩ = false → w'.frozen? ⟨g, o, none⟩ = false) ∧ g < w'.heap.size := by
  refine (clone_any s w hs).mono ?_
  rintro e w' ⟨rfl, hb⟩
  exact ⟨rfl, hb, fun b o v h => cell_on hb h, fun o k => (hb.frozen (p := ⟨g, o, none⟩) hg).trans k, Nat.lt_of_lt_of_le hg hb.size⟩
theorem copied_k (g : Nat) (v : Vv) (w : World) (hs : v.2.2.size ≤ 1000) (hg : g < w.heap.size) :
    Calls Try.prog 27 #[.agg #[.int .i64 v.1, .int .i64 v.2.1, .string v.2.2]] w fun e w' => e = .returned (.agg #[.int .i64 v.1, .int .i64 v.2.1, .string v.2.2]) ∧ Below w.heap.size w w' ∧ (∀ b o v, w.cell? ⟨b, o, none⟩ = some v → w'.cell? ⟨b, o, none⟩ = some v) ∧ (∀ o, w.frozen? ⟨g, o, none⟩ = false → w'.frozen? ⟨g, o, none⟩ = false) ∧ g < w'.heap.size := by
  refine (copied_any v w hs).mono ?_
  rintro e w' ⟨rfl, hb⟩
  exact ⟨rfl, hb, fun b o v h => cell_on hb h, fun o k => (hb.frozen (p := ⟨g, o, none⟩) hg).trans k, Nat.lt_of_lt_of_le hg hb.size⟩

theorem set_same {w : World} {a : Addr} {v : Value} (h : w.cell? a = some v) (q : Addr) : (w.setCell a v).cell? q = w.cell? q := by
  by_cases e : a = q
  · subst e; rw [World.cell?_setCell_same _ _ _ h, h]
  · exact World.cell?_setCell_other _ _ _ _ e
theorem four_same {W : World} {g k : Nat} {x : Bb} (h0 : W.cell? ⟨g, k * 4, none⟩ = some (.string x.1)) (h1 : W.cell? ⟨g, k * 4 + 1, none⟩ = some (.int .i64 x.2.1)) (h2 : W.cell? ⟨g, k * 4 + 2, none⟩ = some (.int .i64 x.2.2.1)) (h3 : W.cell? ⟨g, k * 4 + 3, none⟩ = some (.string x.2.2.2)) (q : Addr) :
    ((((W.setCell ⟨g, k * 4, none⟩ (.string x.1)).setCell ⟨g, k * 4 + 1, none⟩ (.int .i64 x.2.1)).setCell ⟨g, k * 4 + 2, none⟩ (.int .i64 x.2.2.1)).setCell ⟨g, k * 4 + 3, none⟩ (.string x.2.2.2)).cell? q = W.cell? q := by
  have e1 := set_same h0
  have e2 := fun q => (set_same ((e1 ⟨g, k * 4 + 1, none⟩).trans h1) q).trans (e1 q)
  have e3 := fun q => (set_same ((e2 ⟨g, k * 4 + 2, none⟩).trans h2) q).trans (e2 q)
  exact (set_same ((e3 ⟨g, k * 4 + 3, none⟩).trans h3) q).trans (e3 q)

theorem own_at {w : World} {B : Nat} {e : TypeId} {s : Nat} {a : Option Addr} {n cap : Nat} {xs : List Value} (h : w.ownsRow B e s (.slice a n cap) n xs) (hn : 0 < n) : ∃ g, a = some ⟨g, 0, none⟩ ∧ B ≤ g := by
  rcases h.2 with ⟨hv, h0⟩ | ⟨g, cap', cur, hv, hB, _⟩
  · omega
  · simp only [Value.slice.injEq] at hv
    exact ⟨g, hv.1, hB⟩

theorem rowL_two {w : World} (l m : Lb) (h : Lies w l.a l.len l.cap l.xs) (k : Lies w m.a m.len m.cap m.xs) : RowL (w.alloc (.cells #[.slice l.a l.len l.cap, .slice m.a m.len m.cap] 30)) w.heap.size [l, m] := by
  have hba : Below w.heap.size w (w.alloc (.cells #[.slice l.a l.len l.cap, .slice m.a m.len m.cap] 30)) := (Below.refl _ _).alloc (Nat.le_refl _) _
  refine ⟨by simp, fun i x hx => ?_⟩
  match i, hx with
  | 0, hx =>
    simp at hx
    subst hx
    exact ⟨by rw [Lib.cell_of_heap (heap_alloc_new w _)]; rfl, h.on hba⟩
  | 1, hx =>
    simp at hx
    subst hx
    exact ⟨by rw [Lib.cell_of_heap (heap_alloc_new w _)]; rfl, k.on hba⟩

set_option maxHeartbeats 4000000 in
set_option maxRecDepth 20000 in
theorem both_any (a a' : Option Addr) (len cap len' cap' : Nat) (xs ys us : List Bb) (ok : Bool) (w : World) (hx : Lies w a len cap xs) (hy : Lies w a' len' cap' ys) (h1k : len ≤ 400) (h1k' : len' ≤ 400) (hL : ∀ x ∈ xs, Lt x) (hL' : ∀ x ∈ ys, Lt x) (H : Hid (bothR xs ys = (us, ok))) :
    Calls Try.prog 21 #[.slice a len cap, .slice a' len' cap'] w fun e w' => ∃ (q : Option Addr) (n c : Nat), e = .returned (.tuple #[.slice q n c, .bool ok]) ∧ Lies w' q n c us ∧ Below w.heap.size w w' := by
  have hc1 := scheck_any a len cap xs w hx.row hx.le hx.ge hL
  have hc2 := fun W hb => scheck_any a' len' cap' ys W (hy.on hb).row hy.le hy.ge hL'
  cases h1 : listB xs with
  | false =>
    rw [h1, show chk false = 1 from rfl] at hc1
    have HU : Hid ([] = us ∧ false = ok) := by
      have := unhide H
      rw [both_f (by rw [h1]; simp)] at this
      exact hide (by simpa using this)
    obtain ⟨hu, ho⟩ := unhide HU
    subst hu ho
    clear h1 HU H hc2
    go_enter Try.func21, Try.ntmps21
    go_wp2_with fail
    refine hc1.mono ?_
    rintro e w1 ⟨rfl, hb1⟩
    clear hc1 hx hy
    go_wp2_with fail
    go_ret2
    exact ⟨none, 0, 0, rfl, lies_none _, hb1⟩
  | true =>
    rw [h1, show chk true = 0 from rfl] at hc1
    cases h2 : listB ys with
    | false =>
      rw [h2, show chk false = 1 from rfl] at hc2
      have HU : Hid ([] = us ∧ false = ok) := by
        have := unhide H
        rw [both_f (by rw [h2]; simp)] at this
        exact hide (by simpa using this)
      obtain ⟨hu, ho⟩ := unhide HU
      subst hu ho
      clear h1 h2 HU H
      go_enter Try.func21, Try.ntmps21
      go_wp2_with fail
      refine hc1.mono ?_
      rintro e w1 ⟨rfl, hb1⟩
      have hc2' := hc2 w1 hb1
      clear hc1 hc2 hx hy
      go_wp2_with fail
      refine hc2'.mono ?_
      rintro e w2 ⟨rfl, hb2⟩
      clear hc2'
      go_wp2_with fail
      go_ret2
      exact ⟨none, 0, 0, rfl, lies_none _, bt hb1 hb2⟩
    | true =>
      rw [h2, show chk true = 0 from rfl] at hc2
      have hcat := fun (W : World) (hb : Below w.heap.size w W) => concat_any W.heap.size 2 [⟨a, len, cap, xs⟩, ⟨a', len', cap', ys⟩] _ (rowL_two ⟨a, len, cap, xs⟩ ⟨a', len', cap', ys⟩ (hx.on hb) (hy.on hb)) (Nat.le_refl _) (Nat.le_refl _) (by omega) (by simp [sumL]; omega)
      have hlen : (allL [⟨a, len, cap, xs⟩, ⟨a', len', cap', ys⟩]).length ≤ 1000 := by
        simp [allL]
        have := hx.len
        have := hy.len
        omega
      have HL := hide hlen
      have HA : Hid (allL [⟨a, len, cap, xs⟩, ⟨a', len', cap', ys⟩] = xs ++ ys) := hide (by simp [allL])
      have H1 := hide h1
      have H2 := hide h2
      clear h1 h2 hlen hx hy
      go_enter Try.func21, Try.ntmps21
      go_wp2_with fail
      refine hc1.mono ?_
      rintro e w1 ⟨rfl, hb1⟩
      have hc2' := hc2 w1 hb1
      clear hc1 hc2
      go_wp2_with fail
      refine hc2'.mono ?_
      rintro e w2 ⟨rfl, hb2⟩
      have hcat' := hcat w2 (bt hb1 hb2)
      have hw2 := bt hb1 hb2
      clear hc2' hcat hb1 hb2
      go_wp2_with fail
      refine hcat'.mono ?_
      rintro e w3 ⟨q, n, c, rfl, hown3, hb3⟩
      have hw3 := bt hw2 (below_box hb3)
      have hown3' := own_mono (B' := w.heap.size) hown3 (by have := hw2.size; simp; omega)
      have hn1k : n ≤ 1000 := by have h1 := hown3.1; rw [flatB_len] at h1; have := unhide HL; omega
      clear hcat' hown3 hb3 hw2 HL
      rw [unhide HA] at hown3'
      clear HA
      go_wp2_with fail
      refine (sort_any q n c (xs ++ ys) w w3 hw3 hown3' hn1k).mono ?_
      rintro e w4 ⟨rfl, zs, hperm, hpw, hown4, hw4⟩
      clear hw3 hown3'
      go_wp2_with fail
      refine (compact_any q n c zs w w4 hw4 hown4 hn1k).mono ?_
      rintro e w5 ⟨m, gs, rfl, hown5, HS, hw5⟩
      have hmem : ∀ x ∈ gs, Lt x := fun x hx => by
        have := hperm.mem_iff.1 (by rw [(unhide HS).1 x, List.take_length] at hx; exact hx)
        rcases List.mem_append.1 this with h | h
        · exact hL x h
        · exact hL' x h
      have hl5 := lies_own hown5
      have hc5 := scheck_any q m c gs w5 hl5.row hl5.le hl5.ge hmem
      rw [gs_list hperm hpw (unhide HS)] at hc5
      have HG := hide (gs_un hperm hpw (unhide HS)).2
      have hm1k : m ≤ c := hl5.cap
      clear hw4 hown4 HS hperm hpw hl5
      cases h3 : listB (unL xs ys) with
      | false =>
        rw [h3, show chk false = 1 from rfl] at hc5
        have HU : Hid ([] = us ∧ false = ok) := by
          have := unhide H
          rw [both_f (by rw [h3]; simp)] at this
          exact hide (by simpa using this)
        obtain ⟨hu, ho⟩ := unhide HU
        subst hu ho
        clear h3 HU H HG
        go_wp2_with fail
        refine hc5.mono ?_
        rintro e w6 ⟨rfl, hb6⟩
        clear hc5
        go_wp2_with fail
        go_ret2
        exact ⟨none, 0, 0, rfl, lies_none _, bt hw5 hb6⟩
      | true =>
        rw [h3, show chk true = 0 from rfl] at hc5
        have HU : Hid (unL xs ys = us ∧ true = ok) := by
          have := unhide H
          rw [both_t (unhide H1) (unhide H2) h3] at this
          exact hide (by simpa using this)
        have hg := unhide HG h3
        obtain ⟨hu, ho⟩ := unhide HU
        rw [hg, hu] at hown5 hmem
        have hm100 : us.length ≤ 100 := by rw [← hu]; exact list_len h3
        have hml : m = us.length := (lies_own hown5).len
        have hmu : m ≤ 100 := by omega
        have HML := hide hml
        subst ho
        clear h3 HU H HG hu hg hm100 hml hL hL' H1 H2
        go_wp2_with fail
        refine hc5.mono ?_
        rintro e w6 ⟨rfl, hb6⟩
        have hown6 := own_on hown5 hb6
        have hw6 := bt hw5 hb6
        clear hc5 hown5 hw5 hb6
        go_wp2_with fail
        go_loopw [7, 8, 30] (fun _ _ i wr => ∃ k : Nat, k ≤ m ∧ i = .int .i64 k ∧ wr.ownsRow w.heap.size 61 4 (.slice q m c) m (flatB us) ∧ Below w.heap.size w wr) (fun _ _ i _ => m - (intOf i).toNat)
        case atStart => exact ⟨0, Nat.zero_le _, rfl, hown6, hw6⟩
        case round =>
          clear hown6 hw6
          obtain ⟨k, hk, rfl, hown, hbw⟩ := hrel
          by_cases hlt : k < m
          · have hul : k < us.length := by have := unhide HML; omega
            obtain ⟨g, hq, hBg⟩ := own_at hown (by omega)
            subst hq
            obtain ⟨c0, c1, c2, c3⟩ := (rowB_own hown (unhide HML)).at (i := k) (x := us[k]) (by simp)
            have lx := hmem us[k] (List.getElem_mem hul)
            have HF : Hid (((((flatB us).set (k * 4) (.string us[k].1)).set (k * 4 + 1) (.int .i64 us[k].2.1)).set (k * 4 + 2) (.int .i64 us[k].2.2.1)).set (k * 4 + 3) (.string us[k].2.2.2) = flatB us) := by
              refine hide ?_
              rw [flatB_set _ _ _ hul]
              simp
            generalize us[k] = x at c0 c1 c2 c3 lx HF
            obtain ⟨q0, q1, q2, q3⟩ := quad_of (heap_alloc_new wr (bxB x))
            have hbx : Below wr.heap.size wr (wr.alloc (bxB x)) := (Below.refl _ _).alloc (Nat.le_refl _) _
            have hgw : g < wr.heap.size := cell_lt c0
            have d0 := cell_on hbx c0
            have d1 := cell_on hbx c1
            have d2 := cell_on hbx c2
            have d3 := cell_on hbx c3
            have hownx := own_on hown hbx
            have hbwx := bt hbw hbx
            have hsw : (wr.alloc (bxB x)).heap.size = wr.heap.size + 1 := by simp
            go_wp2_with fail
            clear c0 c1 c2 c3 hown hbw hbx
            generalize wr.alloc (.cells #[.string x.1, .int .i64 x.2.1, .int .i64 x.2.2.1, .string x.2.2.2] 61) = W at q0 q1 q2 q3 d0 d1 d2 d3 hownx hbwx hsw
            have f0 := hownx.frozenAt (k * 4)
            have f1 := hownx.frozenAt (k * 4 + 1)
            have f2 := hownx.frozenAt (k * 4 + 2)
            have f3 := hownx.frozenAt (k * 4 + 3)
            have hgW : g < W.heap.size := by omega
            have lx1 : x.1.size ≤ 1000 := by have := lx.1; omega
            have lx2 : x.2.2.2.size ≤ 1000 := by have := lx.2; omega
            have hne : g ≠ wr.heap.size := by omega
            have v0 : W.drew.cell? ⟨g, k * 4, none⟩ = some (.string x.1) := d0
            have v1 : W.drew.cell? ⟨g, k * 4 + 1, none⟩ = some (.int .i64 x.2.1) := d1
            have v2 : W.drew.cell? ⟨g, k * 4 + 2, none⟩ = some (.int .i64 x.2.2.1) := d2
            have v3 : W.drew.cell? ⟨g, k * 4 + 3, none⟩ = some (.string x.2.2.2) := d3
            go_region_held3 (fun w' => w'.cell? ⟨wr.heap.size, 0, none⟩ = some (.string x.1) ∧ w'.cell? ⟨wr.heap.size, 1, none⟩ = some (.int .i64 x.2.1) ∧ w'.cell? ⟨wr.heap.size, 2, none⟩ = some (.int .i64 x.2.2.1) ∧ w'.cell? ⟨wr.heap.size, 3, none⟩ = some (.string x.2.2.2)) (go_keep) (first | (go_at_call 26; refine (clone_k g _ _ lx1 (by exact hgW)).mono ?_; rintro e w7 ⟨rfl, hb7, hk7, hf7, hs7⟩) | (go_at_call 27; refine (copied_k g x.2 _ lx2 (by exact hs7)).mono ?_; rintro e w8 ⟨rfl, hb8, hk8, hf8, hs8⟩; have t0 := hk8 _ _ _ (hk7 _ _ _ v0); have t1 := hk8 _ _ _ (hk7 _ _ _ v1); have t2 := hk8 _ _ _ (hk7 _ _ _ v2); have t3 := hk8 _ _ _ (hk7 _ _ _ v3); have y0 := hf8 _ (hf7 _ f0); have y1 := hf8 _ (hf7 _ f1); have y2 := hf8 _ (hf7 _ f2); have y3 := hf8 _ (hf7 _ f3)))
            have hown8 := own_on (own_on (own_drew hownx) hb7) hb8
            have hbw8 := bt (bt hbwx.drew hb7) hb8
            have o1 := hown8.stored (k * 4) (.string x.1)
            have o2 := o1.1.stored (k * 4 + 1) (.int .i64 x.2.1)
            have o3 := o2.1.stored (k * 4 + 2) (.int .i64 x.2.2.1)
            have o4 := o3.1.stored (k * 4 + 3) (.string x.2.2.2)
            have hown9 := o4.1
            rw [unhide HF] at hown9
            have hbw9 := (((hbw8.setCell (p := ⟨g, k * 4, none⟩) hBg (.string x.1)).setCell (p := ⟨g, k * 4 + 1, none⟩) hBg (.int .i64 x.2.1)).setCell (p := ⟨g, k * 4 + 2, none⟩) hBg (.int .i64 x.2.2.1)).setCell (p := ⟨g, k * 4 + 3, none⟩) hBg (.string x.2.2.2)
            clear o1 o2 o3 o4 hown8 hbw8 hownx hbwx q0 q1 q2 q3 d0 d1 d2 d3 v0 v1 v2 v3 t0 t1 t2 t3 y0 y1 y2 y3 f0 f1 f2 f3 hk7 hf7 hk8 hf8 hb7 hb8 HF
            go_wp2_with fail
            go_roundw
            case rel => exact ⟨k + 1, by omega, by go_num, hown9, hbw9⟩
            case measure => simp [intOf]; omega
          · skip
            go_wp2_with fail
            go_ret2
            exact ⟨q, m, c, rfl, lies_own hown, hbw⟩

/-- A list of one, as it is written out. -/
theorem lies_one (w : World) (x : Bb) : Lies (w.alloc (bxB x)) (some ⟨w.heap.size, 0, none⟩) 1 1 [x] := by
  obtain ⟨q0, q1, q2, q3⟩ := quad_of (heap_alloc_new w (bxB x))
  refine ⟨Or.inr ⟨w.heap.size, 0, rfl, by simp, fun i y hy => ?_⟩, rfl, (fun h => by cases h), Nat.le_refl _⟩
  match i, hy with
  | 0, hy =>
    simp at hy
    subst hy
    exact ⟨q0, q1, q2, q3⟩

set_option maxHeartbeats 1000000 in
theorem put_any (a : Option Addr) (len cap : Nat) (xs us : List Bb) (n : ByteArray) (v : Vv) (ok : Bool) (w : World) (hx : Lies w a len cap xs) (h1k : len ≤ 400) (hL : ∀ x ∈ xs, Lt x) (hn : n.size ≤ 200) (hv : v.2.2.size ≤ 200) (H : Hid (bothR xs [(n, v)] = (us, ok))) :
    Calls Try.prog 38 #[.slice a len cap, .string n, .agg #[.int .i64 v.1, .int .i64 v.2.1, .string v.2.2]] w fun e w' => ∃ (q : Option Addr) (m c : Nat), e = .returned (.tuple #[.slice q m c, .bool ok]) ∧ Lies w' q m c us ∧ Below w.heap.size w w' := by
  have hb1 : Below w.heap.size w (w.alloc (.cells #[.int .i64 v.1, .int .i64 v.2.1, .string v.2.2] 40)) := (Below.refl _ _).alloc (Nat.le_refl _) _
  have hs1 : (w.alloc (.cells #[.int .i64 v.1, .int .i64 v.2.1, .string v.2.2] 40)).heap.size = w.heap.size + 1 := by simp
  obtain ⟨c0, c1, c2⟩ := trip_of (heap_alloc_new w (.cells #[.int .i64 v.1, .int .i64 v.2.1, .string v.2.2] 40))
  have hx1 := hx.on hb1
  go_enter Try.func38, Try.ntmps38
  go_wp2_with fail
  clear c0 c1 c2 hx
  generalize w.alloc (.cells #[.int .i64 v.1, .int .i64 v.2.1, .string v.2.2] 40) = W at hb1 hs1 hx1
  have hl := lies_one W (n, v)
  have hb2 : Below W.heap.size W (W.alloc (bxB (n, v))) := (Below.refl _ _).alloc (Nat.le_refl _) _
  have hb := both_any a (some ⟨W.heap.size, 0, none⟩) len cap 1 1 xs [(n, v)] us ok _ (hx1.on hb2) hl h1k (by omega) hL (fun y hy => by rw [List.mem_singleton.1 hy]; exact ⟨hn, hv⟩) H
  rw [hs1] at hb
  refine hb.mono ?_
  rintro e w2 ⟨q, m, c, rfl, hL2, hb3⟩
  have hw2 := bt (bt hb1 hb2) (by exact hb3)
  clear hb hl hx1 hb1 hb2 hb3 H hL
  go_wp2_with fail
  go_ret2
  exact ⟨q, m, c, rfl, hL2, hw2⟩
end Go.Proofs.Ytmoalmpcobljkaa.Sb

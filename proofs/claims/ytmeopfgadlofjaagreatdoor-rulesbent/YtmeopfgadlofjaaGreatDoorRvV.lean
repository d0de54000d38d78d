/- The walk of constablelaw11.RulesBent: it answers true, whatever the rule and the number. -/
import Derived.Test.YtmeopfgadlofjaaGreatDoorRvZe
namespace Go.Proofs.YtmeopfgadlofjaaGreatDoor.Sb
open Go.RowKit
open V
open Ex (RowO LiesO flatO liesO_own)

theorem Bent.on {W w' : World} {xb : Nat} {x : Rz} (h : Bent W xb x) (hb : Below W.heap.size W w') : Bent w' xb x := ⟨h.box.on hb, h.lies.on hb, h.soft, h.wrong⟩
theorem BR.low {W w' : World} {b k : Nat} {r : Rz} (h : BR W b r) (hb : Below k W w') (hs : b < k) : BR w' b r := ⟨(hb.cell (p := ⟨b, 0, none⟩) hs).trans h.c0, (hb.cell (p := ⟨b, 1, none⟩) hs).trans h.c1, (hb.cell (p := ⟨b, 2, none⟩) hs).trans h.c2, (hb.cell (p := ⟨b, 3, none⟩) hs).trans h.c3⟩
theorem rem8 (h : Int) : (IntKind.u64.wrap h).tmod 8 = 0 ∨ (IntKind.u64.wrap h).tmod 8 = 1 ∨ (IntKind.u64.wrap h).tmod 8 = 2 ∨ (IntKind.u64.wrap h).tmod 8 = 3 ∨ (IntKind.u64.wrap h).tmod 8 = 4 ∨ (IntKind.u64.wrap h).tmod 8 = 5 ∨ (IntKind.u64.wrap h).tmod 8 = 6 ∨ (IntKind.u64.wrap h).tmod 8 = 7 := by
  have h0 : 0 ≤ IntKind.u64.wrap h := by simp [IntKind.wrap, IntKind.bits, IntKind.signed]; omega
  generalize IntKind.u64.wrap h = m at h0
  rw [Int.tmod_eq_emod_of_nonneg h0]
  omega
set_option maxHeartbeats 16000000 in
set_option maxRecDepth 100000 in
theorem bent_law (r : Rz) (h : Int) (w : World) (he : Env w) (hr : r.In w) :
    Calls Tryz.prog 6 #[aggR r, .int .i64 h] w fun e w' => e = .returned (.bool true) ∧ Below w.heap.size w w' := by
  have hb0 := below_new w (bxR r)
  have T0 : Hid (BR _ _ r) := hide (br_of (heap_alloc_new w (bxR r)))
  have F1 := hide (heavyR_any r _ (hr.on hb0))
  obtain ⟨c0, c1, c2, c3⟩ := unhide T0
  go_enter Tryz.func6, Tryz.ntmps6
  go_wp2_with fail
  generalize w.alloc (bxR r) = W0 at hb0 T0 F1 c0 c1 c2 c3 ⊢
  refine (unhide F1).mono ?_
  rintro e w1 ⟨rfl | ⟨rfl, hL⟩, hb1⟩
  · clear c0 c1 c2 c3
    go_wp2_with fail
    go_ret
    exact ⟨rfl, bt hb0 hb1⟩
  have T1 := hide ((unhide T0).on hb1)
  have hw1 := bt hb0 hb1
  have HL := hide hL
  clear c0 c1 c2 c3 T0 F1 hb0 hb1 hL
  have F2 := refRule_any r w1 (hr.on hw1) (unhide HL)
  obtain ⟨c0, c1, c2, c3⟩ := unhide T1
  cases hra : rightR r.pl with
  | false =>
    rw [hra] at F2
    replace F2 := hide F2
    go_wp2_with fail
    refine (unhide F2).mono ?_
    rintro e w2 ⟨rfl, hb2⟩
    clear c0 c1 c2 c3
    go_wp2_with fail
    go_ret
    exact ⟨rfl, bt hw1 hb2⟩
  | true =>
  rw [hra] at F2
  replace F2 := hide F2
  have HRA := hide hra
  clear hra
  go_wp2_with fail
  refine (unhide F2).mono ?_
  rintro e w2 ⟨rfl, hb2⟩
  have T2 := hide ((unhide T1).on hb2)
  have hw2 := bt hw1 hb2
  clear c0 c1 c2 c3 T1 F2 hw1 hb2
  have F3 := hide (twinR_any r w2 (hr.on hw2) (unhide HL))
  obtain ⟨c0, c1, c2, c3⟩ := unhide T2
  go_wp2_with fail
  refine (unhide F3).mono ?_
  rintro e w3 ⟨s, B, rfl, HT⟩
  have T3 := hide ((unhide T2).on HT.bel)
  have hw3 := bt hw2 HT.bel
  have hlt2 : w.heap.size < w2.heap.size := cell_lt c0
  have hlo := HT.lo
  have hR := unhide HRA
  obtain ⟨⟨g, c, cs, hca, hcs, hcl, hk, hg1, hg2, hg3, gc0, gc3, gf0, gf3⟩, ⟨ga, z, zs, haa, hzs, hal, ha1, ha3, ac0, af0, halc, hal6⟩⟩ := twin_rows HT hR
  have hbx := below_new w3 (bxR s)
  have hs3 : w2.heap.size ≤ w3.heap.size := HT.bel.size
  have T4 := (unhide T3).on hbx
  have hw4 := bt hw3 hbx
  obtain ⟨x0, x1, x2, x3⟩ := br_of (heap_alloc_new w3 (bxR s))
  have f0 := Lib.frozen_of_heap (heap_alloc_new w3 (bxR s)) 0
  have f1 := Lib.frozen_of_heap (heap_alloc_new w3 (bxR s)) 1
  have f2 := Lib.frozen_of_heap (heap_alloc_new w3 (bxR s)) 2
  have f3 := Lib.frozen_of_heap (heap_alloc_new w3 (bxR s)) 3
  replace gc0 := cell_on hbx gc0
  replace gc3 := cell_on hbx gc3
  replace ac0 := cell_on hbx ac0
  replace gf0 := (hbx.frozen (p := ⟨g, 0, none⟩) hg3).trans gf0
  replace gf3 := (hbx.frozen (p := ⟨g, 3, none⟩) hg3).trans gf3
  replace af0 := (hbx.frozen (p := ⟨ga, 0, none⟩) ha3).trans af0
  have HCA := hide (And.intro hca (And.intro hcs (And.intro hcl hk)))
  have HAA := hide (And.intro haa (And.intro hzs hal))
  have HHT := hide HT
  clear c0 c1 c2 c3 F3 T2 T3 hlo hca hcs hcl hk haa hzs hal HT hR halc hal6
  go_upto_if 21 with fail
  have hsW : (w3.alloc (bxR s)).heap.size = w3.heap.size + 1 := by simp
  obtain ⟨W3, hW3⟩ : ∃ W3, w3.alloc (bxR s) = W3 := ⟨_, rfl⟩
  rw [hW3] at hsW T4 hw4 x0 x1 x2 x3 f0 f1 f2 f3 gc0 gc3 gf0 gf3 ac0 af0 hbx ⊢
  have HW3 := hide hW3
  have HSW := hide hsW
  clear hW3 hsW
  have hk8 := rem8 h
  generalize (IntKind.u64.wrap h).tmod 8 = K at hk8 ⊢
  rcases hk8 with rfl | rfl | rfl | rfl | rfl | rfl | rfl | rfl
  · have hB := bent_0 (unhide HHT)
    rw [unhide HW3] at hB
    have T9 := T4.off (a := ⟨w3.heap.size, 2, none⟩) (by show w3.heap.size ≠ w.heap.size; omega) (.slice none 0 0)
    have hb9 := hw4.setCell (p := ⟨w3.heap.size, 2, none⟩) (by show w.heap.size ≤ w3.heap.size; omega) (.slice none 0 0)
    have F5 := hide (rtext_wrong _ _ hB.lies hB.soft (hide hB.wrong))
    clear gc0 gc3 gf0 gf3 ac0 af0
    go_wp2_with fail
    refine (unhide F5).mono ?_
    rintro e w10 ⟨rfl, hb10⟩
    have T10 := hide (T9.on hb10)
    have hw10 := bt hb9 hb10
    obtain ⟨x9, hB9⟩ : ∃ x, Bent w10 w3.heap.size x := ⟨_, hB.on hb10⟩
    have F6 := check_any r w10 (hr.on hw10) (unhide HL).soft
    have F7 := fun W (h : Below w10.heap.size w10 W) => check_any x9 W (hB9.lies.on h) hB9.soft
    rw [unhide HRA] at F6
    rw [hB9.wrong] at F7
    replace F6 := hide F6
    replace F7 := hide F7
    have X10 := hide hB9.box
    clear hB hB9 T9 hb9 hb10 F5
    clear x0 x1 x2 x3 f0 f1 f2 f3 T4 hw4 hbx HW3 HSW HCA HAA HHT
    obtain ⟨c0, c1, c2, c3⟩ := unhide T10
    go_wp2_with fail
    refine (unhide F6).mono ?_
    rintro e w11 ⟨rfl, hb11⟩
    have X11 := hide ((unhide X10).on hb11)
    have hw11 := bt hw10 hb11
    have F8 := hide (unhide F7 w11 hb11)
    rw [show chk true = 0 from rfl]
    clear c0 c1 c2 c3 T10 X10 F6 F7 hw10 hb11
    obtain ⟨y0, y1, y2, y3⟩ := unhide X11
    go_wp2_with fail
    refine (unhide F8).mono ?_
    rintro e w12 ⟨rfl, hb12⟩
    have hw12 := bt hw11 hb12
    rw [show chk false = 1 from rfl]
    clear y0 y1 y2 y3 X11 F8 hw11 hb12
    go_wp2_with fail
    refine (wakes_any _ (he.on hw12)).mono ?_
    rintro e w13 ⟨rfl, hb13⟩
    have hw13 := bt hw12 hb13
    go_wp2_with fail
    go_ret
    exact ⟨rfl, hw13⟩
  · have hB := bent_1 (unhide HHT)
    rw [unhide HW3] at hB
    have T9 := T4.off (a := ⟨w3.heap.size, 3, none⟩) (by show w3.heap.size ≠ w.heap.size; omega) (.slice none 0 0)
    have hb9 := hw4.setCell (p := ⟨w3.heap.size, 3, none⟩) (by show w.heap.size ≤ w3.heap.size; omega) (.slice none 0 0)
    have F5 := hide (rtext_wrong _ _ hB.lies hB.soft (hide hB.wrong))
    clear gc0 gc3 gf0 gf3 ac0 af0
    go_wp2_with fail
    refine (unhide F5).mono ?_
    rintro e w10 ⟨rfl, hb10⟩
    have T10 := hide (T9.on hb10)
    have hw10 := bt hb9 hb10
    obtain ⟨x9, hB9⟩ : ∃ x, Bent w10 w3.heap.size x := ⟨_, hB.on hb10⟩
    have F6 := check_any r w10 (hr.on hw10) (unhide HL).soft
    have F7 := fun W (h : Below w10.heap.size w10 W) => check_any x9 W (hB9.lies.on h) hB9.soft
    rw [unhide HRA] at F6
    rw [hB9.wrong] at F7
    replace F6 := hide F6
    replace F7 := hide F7
    have X10 := hide hB9.box
    clear hB hB9 T9 hb9 hb10 F5
    clear x0 x1 x2 x3 f0 f1 f2 f3 T4 hw4 hbx HW3 HSW HCA HAA HHT
    obtain ⟨c0, c1, c2, c3⟩ := unhide T10
    go_wp2_with fail
    refine (unhide F6).mono ?_
    rintro e w11 ⟨rfl, hb11⟩
    have X11 := hide ((unhide X10).on hb11)
    have hw11 := bt hw10 hb11
    have F8 := hide (unhide F7 w11 hb11)
    rw [show chk true = 0 from rfl]
    clear c0 c1 c2 c3 T10 X10 F6 F7 hw10 hb11
    obtain ⟨y0, y1, y2, y3⟩ := unhide X11
    go_wp2_with fail
    refine (unhide F8).mono ?_
    rintro e w12 ⟨rfl, hb12⟩
    have hw12 := bt hw11 hb12
    rw [show chk false = 1 from rfl]
    clear y0 y1 y2 y3 X11 F8 hw11 hb12
    go_wp2_with fail
    refine (wakes_any _ (he.on hw12)).mono ?_
    rintro e w13 ⟨rfl, hb13⟩
    have hw13 := bt hw12 hb13
    go_wp2_with fail
    go_ret
    exact ⟨rfl, hw13⟩
  · obtain ⟨hca, hcs, hcl, hk⟩ := unhide HCA
    have hB := bent_2 (unhide HHT) hca hcs hcl hg2 hg3
    rw [unhide HW3] at hB
    have T9 := T4.off (a := ⟨g, 0, none⟩) (by show g ≠ w.heap.size; omega) (.int .i64 2)
    have hb9 := hw4.setCell (p := ⟨g, 0, none⟩) (by show w.heap.size ≤ g; omega) (.int .i64 2)
    have F5 := hide (rtext_wrong _ _ hB.lies hB.soft (hide hB.wrong))
    rw [hca, hcl] at x2
    rw [hca, hcl] at F5
    clear ac0 af0 hcs hk gc3 gf3 hca hcl
    go_wp2_with fail
    refine (unhide F5).mono ?_
    rintro e w10 ⟨rfl, hb10⟩
    have T10 := hide (T9.on hb10)
    have hw10 := bt hb9 hb10
    obtain ⟨x9, hB9⟩ : ∃ x, Bent w10 w3.heap.size x := ⟨_, hB.on hb10⟩
    have F6 := check_any r w10 (hr.on hw10) (unhide HL).soft
    have F7 := fun W (h : Below w10.heap.size w10 W) => check_any x9 W (hB9.lies.on h) hB9.soft
    rw [unhide HRA] at F6
    rw [hB9.wrong] at F7
    replace F6 := hide F6
    replace F7 := hide F7
    have X10 := hide hB9.box
    clear hB hB9 T9 hb9 hb10 F5
    clear x0 x1 x2 x3 f0 f1 f2 f3 T4 hw4 hbx HW3 HSW HCA HAA HHT gc0 gf0
    obtain ⟨c0, c1, c2, c3⟩ := unhide T10
    go_wp2_with fail
    refine (unhide F6).mono ?_
    rintro e w11 ⟨rfl, hb11⟩
    have X11 := hide ((unhide X10).on hb11)
    have hw11 := bt hw10 hb11
    have F8 := hide (unhide F7 w11 hb11)
    rw [show chk true = 0 from rfl]
    clear c0 c1 c2 c3 T10 X10 F6 F7 hw10 hb11
    obtain ⟨y0, y1, y2, y3⟩ := unhide X11
    go_wp2_with fail
    refine (unhide F8).mono ?_
    rintro e w12 ⟨rfl, hb12⟩
    have hw12 := bt hw11 hb12
    rw [show chk false = 1 from rfl]
    clear y0 y1 y2 y3 X11 F8 hw11 hb12
    go_wp2_with fail
    refine (wakes_any _ (he.on hw12)).mono ?_
    rintro e w13 ⟨rfl, hb13⟩
    have hw13 := bt hw12 hb13
    go_wp2_with fail
    go_ret
    exact ⟨rfl, hw13⟩
  · have hB := bent_3 (unhide HHT)
    rw [unhide HW3] at hB
    have T9 := T4.off (a := ⟨w3.heap.size, 1, none⟩) (by show w3.heap.size ≠ w.heap.size; omega) (.int .i64 1001)
    have hb9 := hw4.setCell (p := ⟨w3.heap.size, 1, none⟩) (by show w.heap.size ≤ w3.heap.size; omega) (.int .i64 1001)
    have F5 := hide (rtext_wrong _ _ hB.lies hB.soft (hide hB.wrong))
    clear gc0 gc3 gf0 gf3 ac0 af0
    go_wp2_with fail
    refine (unhide F5).mono ?_
    rintro e w10 ⟨rfl, hb10⟩
    have T10 := hide (T9.on hb10)
    have hw10 := bt hb9 hb10
    obtain ⟨x9, hB9⟩ : ∃ x, Bent w10 w3.heap.size x := ⟨_, hB.on hb10⟩
    have F6 := check_any r w10 (hr.on hw10) (unhide HL).soft
    have F7 := fun W (h : Below w10.heap.size w10 W) => check_any x9 W (hB9.lies.on h) hB9.soft
    rw [unhide HRA] at F6
    rw [hB9.wrong] at F7
    replace F6 := hide F6
    replace F7 := hide F7
    have X10 := hide hB9.box
    clear hB hB9 T9 hb9 hb10 F5
    clear x0 x1 x2 x3 f0 f1 f2 f3 T4 hw4 hbx HW3 HSW HCA HAA HHT
    obtain ⟨c0, c1, c2, c3⟩ := unhide T10
    go_wp2_with fail
    refine (unhide F6).mono ?_
    rintro e w11 ⟨rfl, hb11⟩
    have X11 := hide ((unhide X10).on hb11)
    have hw11 := bt hw10 hb11
    have F8 := hide (unhide F7 w11 hb11)
    rw [show chk true = 0 from rfl]
    clear c0 c1 c2 c3 T10 X10 F6 F7 hw10 hb11
    obtain ⟨y0, y1, y2, y3⟩ := unhide X11
    go_wp2_with fail
    refine (unhide F8).mono ?_
    rintro e w12 ⟨rfl, hb12⟩
    have hw12 := bt hw11 hb12
    rw [show chk false = 1 from rfl]
    clear y0 y1 y2 y3 X11 F8 hw11 hb12
    go_wp2_with fail
    refine (wakes_any _ (he.on hw12)).mono ?_
    rintro e w13 ⟨rfl, hb13⟩
    have hw13 := bt hw12 hb13
    go_wp2_with fail
    go_ret
    exact ⟨rfl, hw13⟩
  · obtain ⟨haa, hzs, hal⟩ := unhide HAA
    obtain ⟨ys, zl, hyz⟩ : ∃ ys zl, s.zs = ys ++ [zl] := ⟨_, _, (List.dropLast_concat_getLast (by rw [hzs]; simp)).symm⟩
    have hal' : s.al = (ys ++ [zl]).length := by rw [hal, ← hzs, hyz]
    have hA := (unhide HHT).a
    rw [haa, hal', hyz] at hA
    have hI := hide ((own_init hA).on hbx)
    have hn : s.al = ys.length + 1 := by rw [hal', List.length_append]; rfl
    have hnew := hide (heap_alloc_new W3 (bxZ zB))
    have hsz : B ≤ (W3.alloc (bxZ zB)).heap.size := by have := unhide HSW; simp; omega
    have hcc := (unhide HHT).light.a
    have hca := (unhide HHT).a.lies.cap
    rw [hn] at hcc hca
    have HB4 := hide (fun q9 c9 w9 => bent_4w (unhide HHT) haa hyz hal' ha1 ha3 (unhide HW3) (q9 := q9) (c9 := c9) (w9 := w9))
    rw [haa, hn] at x3
    clear hA hal' hyz hn hal hzs ac0 af0 haa
    clear gc0 gc3 gf0 gf3
    go_wp2_with (at_builtin; refine app_z rfl _ _ rfl B (.slice (some ⟨ga, 0, none⟩) ys.length s.ac) ys zB W3.heap.size rfl rfl (World.ownsRow.alloc (unhide hI).row _) hnew (by omega) hsz ?_)
    intro v' w9 hr9 hg9 h59
    have hr0 : w9.ownsRow B 57 4 v' (ys ++ [zB]).length (flatZs (ys ++ [zB])) := by rw [List.length_append]; simpa using hr9
    have h60 : v'.ownBlock = some ga ∨ v'.ownBlock = some (W3.alloc (bxZ zB)).heap.size := by
      rcases h59 with e | e
      · exact Or.inl e
      · exact Or.inr (by simpa using e)
    have hgr : (W3.alloc (bxZ zB)).grownBy w9 (some ga) := hg9
    obtain ⟨q9, c9, rfl⟩ := own_slice hr0
    have hB := unhide HB4 q9 c9 w9 hr0 hgr h60
    have hsW := unhide HSW
    have hlo := (unhide HHT).lo
    have hbg : Below B (W3.alloc (bxZ zB)) w9 := (Below.refl B _).grown hgr hsz (fun k hk => by cases hk; exact ha1)
    have h9 : w9.heap[w3.heap.size]? = some (bxR s) := (hgr.block w3.heap.size (by simp; omega) (fun e => by simp only [Option.some.injEq] at e; omega)).trans ((Lib.alloc_old W3 (bxZ zB) w3.heap.size (by omega)).trans (by rw [← unhide HW3]; exact heap_alloc_new w3 (bxR s)))
    have T8 := (T4.on (below_new W3 (bxZ zB))).low hbg (by omega)
    have hb8 := Below.trans (bt hw4 (below_new W3 (bxZ zB))) (hbg.mono (by omega))
    have T9 := T8.off (a := ⟨w3.heap.size, 3, none⟩) (by show w3.heap.size ≠ w.heap.size; omega) (.slice q9 (ys ++ [zB]).length c9)
    have hb9 := hb8.setCell (p := ⟨w3.heap.size, 3, none⟩) (by show w.heap.size ≤ w3.heap.size; omega) (.slice q9 (ys ++ [zB]).length c9)
    have F5 := hide (rtext_wrong _ _ hB.lies hB.soft (hide hB.wrong))
    obtain ⟨y0, y1, y2, y3⟩ := br_of h9
    have e0 := Lib.frozen_of_heap h9 0
    have e1 := Lib.frozen_of_heap h9 1
    have e2 := Lib.frozen_of_heap h9 2
    have e3 := Lib.frozen_of_heap h9 3
    clear hr0 hr9 hg9 hgr h59 h60 HB4 hI hnew hsz hcc hca hsW hlo hbg h9 T8 hb8 x0 x1 x2 x3 f0 f1 f2 f3 hbx HW3 HSW T4 hw4
    generalize (ys ++ [zB]).length = N at hB T9 hb9 F5 ⊢
    go_wp2_with fail
    refine (unhide F5).mono ?_
    rintro e w10 ⟨rfl, hb10⟩
    have T10 := hide (T9.on hb10)
    have hw10 := bt hb9 hb10
    obtain ⟨x9, hB9⟩ : ∃ x, Bent w10 w3.heap.size x := ⟨_, hB.on hb10⟩
    have F6 := check_any r w10 (hr.on hw10) (unhide HL).soft
    have F7 := fun W (h : Below w10.heap.size w10 W) => check_any x9 W (hB9.lies.on h) hB9.soft
    rw [unhide HRA] at F6
    rw [hB9.wrong] at F7
    replace F6 := hide F6
    replace F7 := hide F7
    have X10 := hide hB9.box
    clear hB hB9 T9 hb9 hb10 F5
    clear y0 y1 y2 y3 e0 e1 e2 e3 HCA HAA HHT
    obtain ⟨c0, c1, c2, c3⟩ := unhide T10
    go_wp2_with fail
    refine (unhide F6).mono ?_
    rintro e w11 ⟨rfl, hb11⟩
    have X11 := hide ((unhide X10).on hb11)
    have hw11 := bt hw10 hb11
    have F8 := hide (unhide F7 w11 hb11)
    rw [show chk true = 0 from rfl]
    clear c0 c1 c2 c3 T10 X10 F6 F7 hw10 hb11
    obtain ⟨y0, y1, y2, y3⟩ := unhide X11
    go_wp2_with fail
    refine (unhide F8).mono ?_
    rintro e w12 ⟨rfl, hb12⟩
    have hw12 := bt hw11 hb12
    rw [show chk false = 1 from rfl]
    clear y0 y1 y2 y3 X11 F8 hw11 hb12
    go_wp2_with fail
    refine (wakes_any _ (he.on hw12)).mono ?_
    rintro e w13 ⟨rfl, hb13⟩
    have hw13 := bt hw12 hb13
    go_wp2_with fail
    go_ret
    exact ⟨rfl, hw13⟩
  · obtain ⟨haa, hzs, hal⟩ := unhide HAA
    have hB := bent_5 (unhide HHT) haa hzs hal ha1 ha3
    rw [unhide HW3] at hB
    have T9 := T4.off (a := ⟨ga, 0, none⟩) (by show ga ≠ w.heap.size; omega) (.int .i64 3)
    have hb9 := hw4.setCell (p := ⟨ga, 0, none⟩) (by show w.heap.size ≤ ga; omega) (.int .i64 3)
    have F5 := hide (rtext_wrong _ _ hB.lies hB.soft (hide hB.wrong))
    rw [haa, hal] at x3
    rw [haa, hal] at F5
    clear gc0 gc3 gf0 gf3 hzs haa hal
    go_wp2_with fail
    refine (unhide F5).mono ?_
    rintro e w10 ⟨rfl, hb10⟩
    have T10 := hide (T9.on hb10)
    have hw10 := bt hb9 hb10
    obtain ⟨x9, hB9⟩ : ∃ x, Bent w10 w3.heap.size x := ⟨_, hB.on hb10⟩
    have F6 := check_any r w10 (hr.on hw10) (unhide HL).soft
    have F7 := fun W (h : Below w10.heap.size w10 W) => check_any x9 W (hB9.lies.on h) hB9.soft
    rw [unhide HRA] at F6
    rw [hB9.wrong] at F7
    replace F6 := hide F6
    replace F7 := hide F7
    have X10 := hide hB9.box
    clear hB hB9 T9 hb9 hb10 F5
    clear x0 x1 x2 x3 f0 f1 f2 f3 T4 hw4 hbx HW3 HSW HCA HAA HHT ac0 af0
    obtain ⟨c0, c1, c2, c3⟩ := unhide T10
    go_wp2_with fail
    refine (unhide F6).mono ?_
    rintro e w11 ⟨rfl, hb11⟩
    have X11 := hide ((unhide X10).on hb11)
    have hw11 := bt hw10 hb11
    have F8 := hide (unhide F7 w11 hb11)
    rw [show chk true = 0 from rfl]
    clear c0 c1 c2 c3 T10 X10 F6 F7 hw10 hb11
    obtain ⟨y0, y1, y2, y3⟩ := unhide X11
    go_wp2_with fail
    refine (unhide F8).mono ?_
    rintro e w12 ⟨rfl, hb12⟩
    have hw12 := bt hw11 hb12
    rw [show chk false = 1 from rfl]
    clear y0 y1 y2 y3 X11 F8 hw11 hb12
    go_wp2_with fail
    refine (wakes_any _ (he.on hw12)).mono ?_
    rintro e w13 ⟨rfl, hb13⟩
    have hw13 := bt hw12 hb13
    go_wp2_with fail
    go_ret
    exact ⟨rfl, hw13⟩
  · obtain ⟨hca, hcs, hcl, hk⟩ := unhide HCA
    have hB := bent_6 (unhide HHT) hca hcs hcl hk hg2 hg3
    rw [unhide HW3] at hB
    have T9 := T4.off (a := ⟨g, 3, none⟩) (by show g ≠ w.heap.size; omega) (.int .i64 1)
    have hb9 := hw4.setCell (p := ⟨g, 3, none⟩) (by show w.heap.size ≤ g; omega) (.int .i64 1)
    have F5 := hide (rtext_wrong _ _ hB.lies hB.soft (hide hB.wrong))
    rw [hca, hcl] at x2
    rw [hca, hcl] at F5
    clear ac0 af0 hcs hk gc0 gf0 hca hcl
    go_wp2_with fail
    refine (unhide F5).mono ?_
    rintro e w10 ⟨rfl, hb10⟩
    have T10 := hide (T9.on hb10)
    have hw10 := bt hb9 hb10
    obtain ⟨x9, hB9⟩ : ∃ x, Bent w10 w3.heap.size x := ⟨_, hB.on hb10⟩
    have F6 := check_any r w10 (hr.on hw10) (unhide HL).soft
    have F7 := fun W (h : Below w10.heap.size w10 W) => check_any x9 W (hB9.lies.on h) hB9.soft
    rw [unhide HRA] at F6
    rw [hB9.wrong] at F7
    replace F6 := hide F6
    replace F7 := hide F7
    have X10 := hide hB9.box
    clear hB hB9 T9 hb9 hb10 F5
    clear x0 x1 x2 x3 f0 f1 f2 f3 T4 hw4 hbx HW3 HSW HCA HAA HHT gc3 gf3
    obtain ⟨c0, c1, c2, c3⟩ := unhide T10
    go_wp2_with fail
    refine (unhide F6).mono ?_
    rintro e w11 ⟨rfl, hb11⟩
    have X11 := hide ((unhide X10).on hb11)
    have hw11 := bt hw10 hb11
    have F8 := hide (unhide F7 w11 hb11)
    rw [show chk true = 0 from rfl]
    clear c0 c1 c2 c3 T10 X10 F6 F7 hw10 hb11
    obtain ⟨y0, y1, y2, y3⟩ := unhide X11
    go_wp2_with fail
    refine (unhide F8).mono ?_
    rintro e w12 ⟨rfl, hb12⟩
    have hw12 := bt hw11 hb12
    rw [show chk false = 1 from rfl]
    clear y0 y1 y2 y3 X11 F8 hw11 hb12
    go_wp2_with fail
    refine (wakes_any _ (he.on hw12)).mono ?_
    rintro e w13 ⟨rfl, hb13⟩
    have hw13 := bt hw12 hb13
    go_wp2_with fail
    go_ret
    exact ⟨rfl, hw13⟩
  · have hB := bent_7 (unhide HHT)
    rw [unhide HW3] at hB
    have T9 := T4.off (a := ⟨w3.heap.size, 0, none⟩) (by show w3.heap.size ≠ w.heap.size; omega) (.string ⟨#[114, 117, 108, 101]⟩)
    have hb9 := hw4.setCell (p := ⟨w3.heap.size, 0, none⟩) (by show w.heap.size ≤ w3.heap.size; omega) (.string ⟨#[114, 117, 108, 101]⟩)
    have F5 := hide (rtext_wrong _ _ hB.lies hB.soft (hide hB.wrong))
    clear gc0 gc3 gf0 gf3 ac0 af0
    go_wp2_with fail
    refine (unhide F5).mono ?_
    rintro e w10 ⟨rfl, hb10⟩
    have T10 := hide (T9.on hb10)
    have hw10 := bt hb9 hb10
    obtain ⟨x9, hB9⟩ : ∃ x, Bent w10 w3.heap.size x := ⟨_, hB.on hb10⟩
    have F6 := check_any r w10 (hr.on hw10) (unhide HL).soft
    have F7 := fun W (h : Below w10.heap.size w10 W) => check_any x9 W (hB9.lies.on h) hB9.soft
    rw [unhide HRA] at F6
    rw [hB9.wrong] at F7
    replace F6 := hide F6
    replace F7 := hide F7
    have X10 := hide hB9.box
    clear hB hB9 T9 hb9 hb10 F5
    clear x0 x1 x2 x3 f0 f1 f2 f3 T4 hw4 hbx HW3 HSW HCA HAA HHT
    obtain ⟨c0, c1, c2, c3⟩ := unhide T10
    go_wp2_with fail
    refine (unhide F6).mono ?_
    rintro e w11 ⟨rfl, hb11⟩
    have X11 := hide ((unhide X10).on hb11)
    have hw11 := bt hw10 hb11
    have F8 := hide (unhide F7 w11 hb11)
    rw [show chk true = 0 from rfl]
    clear c0 c1 c2 c3 T10 X10 F6 F7 hw10 hb11
    obtain ⟨y0, y1, y2, y3⟩ := unhide X11
    go_wp2_with fail
    refine (unhide F8).mono ?_
    rintro e w12 ⟨rfl, hb12⟩
    have hw12 := bt hw11 hb12
    rw [show chk false = 1 from rfl]
    clear y0 y1 y2 y3 X11 F8 hw11 hb12
    go_wp2_with fail
    refine (wakes_any _ (he.on hw12)).mono ?_
    rintro e w13 ⟨rfl, hb13⟩
    have hw13 := bt hw12 hb13
    go_wp2_with fail
    go_ret
    exact ⟨rfl, hw13⟩
end Go.Proofs.YtmeopfgadlofjaaGreatDoor.Sb


/- The walk of constablelaw01.ValOrder: it answers true, whatever the three values. -/
import Derived.Test.YthhfahfgfcicbaaDoorOwnG
import Derived.Test.YthhfahfgfcicbaaDoorOwnO
namespace Go.Proofs.YthhfahfgfcicbaaDoor
open Go.RowKit
open V

/-- A value as the model holds it. -/
abbrev vv (k n : Int) (s : ByteArray) : Value := .agg #[.int .i64 k, .int .i64 n, .string s]
abbrev tv (k n : Int) (s : ByteArray) : Int × Int × List UInt8 := (k, n, s.data.toList)
theorem compare_v (k n k' n' : Int) (s s' : ByteArray) (w : World) :
    Calls Tryd.prog 11 #[.agg #[.int .i64 k, .int .i64 n, .string s], .agg #[.int .i64 k', .int .i64 n', .string s']] w fun e w' => e = .returned (.int .i64 (cmpV (tv k n s) (tv k' n' s'))) ∧ Below w.heap.size w w' ∧ ∀ b o v, w.cell? ⟨b, o, none⟩ = some v → w'.cell? ⟨b, o, none⟩ = some v := by
  refine (compare_any k n k' n' s s' w).mono ?_
  rintro e w' ⟨rfl, hb⟩
  refine ⟨rfl, hb, fun b o v h => ?_⟩
  have hlt : b < w.heap.size := by
    rcases Nat.lt_or_ge b w.heap.size with h' | h'
    · exact h'
    · simp [World.cell?, Array.getElem?_eq_none h'] at h
  rw [hb.cell (p := ⟨b, o, none⟩) hlt]; exact h

/-- Three boxed values stand in a world. -/
structure Boxes3 (W : World) (b : Nat) (ka na kb nb kc nc : Int) (sa sb sc : ByteArray) : Prop where
  a0 : W.cell? ⟨b, 0, none⟩ = some (.int .i64 ka)
  a1 : W.cell? ⟨b, 1, none⟩ = some (.int .i64 na)
  a2 : W.cell? ⟨b, 2, none⟩ = some (.string sa)
  b0 : W.cell? ⟨b + 1, 0, none⟩ = some (.int .i64 kb)
  b1 : W.cell? ⟨b + 1, 1, none⟩ = some (.int .i64 nb)
  b2 : W.cell? ⟨b + 1, 2, none⟩ = some (.string sb)
  c0 : W.cell? ⟨b + 1 + 1, 0, none⟩ = some (.int .i64 kc)
  c1 : W.cell? ⟨b + 1 + 1, 1, none⟩ = some (.int .i64 nc)
  c2 : W.cell? ⟨b + 1 + 1, 2, none⟩ = some (.string sc)
theorem cells_of {W : World} {b : Nat} {x y z : Value} {T : TypeId} (h : W.heap[b]? = some (.cells #[x, y, z] T)) : W.cell? ⟨b, 0, none⟩ = some x ∧ W.cell? ⟨b, 1, none⟩ = some y ∧ W.cell? ⟨b, 2, none⟩ = some z :=
  ⟨by rw [Lib.cell_of_heap h]; rfl, by rw [Lib.cell_of_heap h]; rfl, by rw [Lib.cell_of_heap h]; rfl⟩
theorem boxes3 (w : World) (ka na kb nb kc nc : Int) (sa sb sc : ByteArray) : Boxes3 (((w.alloc (.cells #[.int .i64 ka, .int .i64 na, .string sa] 23)).alloc (.cells #[.int .i64 kb, .int .i64 nb, .string sb] 23)).alloc (.cells #[.int .i64 kc, .int .i64 nc, .string sc] 23)) w.heap.size ka na kb nb kc nc sa sb sc := by
  have s1 : (w.alloc (.cells #[.int .i64 ka, .int .i64 na, .string sa] 23)).heap.size = w.heap.size + 1 := by simp
  have s2 : ((w.alloc (.cells #[.int .i64 ka, .int .i64 na, .string sa] 23)).alloc (.cells #[.int .i64 kb, .int .i64 nb, .string sb] 23)).heap.size = w.heap.size + 1 + 1 := by simp
  have h3 := heap_alloc_new ((w.alloc (.cells #[.int .i64 ka, .int .i64 na, .string sa] 23)).alloc (.cells #[.int .i64 kb, .int .i64 nb, .string sb] 23)) (.cells #[.int .i64 kc, .int .i64 nc, .string sc] 23)
  have h2 := heap_alloc_new (w.alloc (.cells #[.int .i64 ka, .int .i64 na, .string sa] 23)) (.cells #[.int .i64 kb, .int .i64 nb, .string sb] 23)
  have h1 := heap_alloc_new w (.cells #[.int .i64 ka, .int .i64 na, .string sa] 23)
  rw [s2] at h3
  rw [s1] at h2
  rw [← Lib.alloc_old _ (.cells #[.int .i64 kc, .int .i64 nc, .string sc] 23) _ (by rw [s2]; omega)] at h2
  rw [← Lib.alloc_old _ (.cells #[.int .i64 kb, .int .i64 nb, .string sb] 23) _ (by rw [s1]; omega), ← Lib.alloc_old _ (.cells #[.int .i64 kc, .int .i64 nc, .string sc] 23) _ (by rw [s2]; omega)] at h1
  obtain ⟨x0, x1, x2⟩ := cells_of h1
  obtain ⟨y0, y1, y2⟩ := cells_of h2
  obtain ⟨z0, z1, z2⟩ := cells_of h3
  exact ⟨x0, x1, x2, y0, y1, y2, z0, z1, z2⟩

set_option maxHeartbeats 4000000 in
theorem order_walk (ka na kb nb kc nc : Int) (sa sb sc : ByteArray) (w : World) (he : Env w)
    (da : decide (200 < (sa.size : Int)) = false) (db : decide (200 < (sb.size : Int)) = false) (dc : decide (200 < (sc.size : Int)) = false)
    (x y z : Int) (HX : Hid (cmpV (tv ka na sa) (tv kb nb sb) = x)) (HY : Hid (cmpV (tv kb nb sb) (tv kc nc sc) = y)) (HZ : Hid (cmpV (tv ka na sa) (tv kc nc sc) = z)) (HB : Hid (cmpV (tv kb nb sb) (tv ka na sa) = -x))
    (hx : (x = 1 ∨ x = -1 ∧ decide (0 < y) = true ∨ x = -1 ∧ decide (0 < y) = false ∧ decide (z ≤ 0) = true ∧ decide (z < 0) = true) ∧ ((ka == kb) = false ∨ (ka == kb) = true ∧ (na == nb) = false ∨ (ka == kb) = true ∧ (na == nb) = true ∧ (sa.toList == sb.toList) = false)
      ∨ (x = 0 ∧ decide (0 < y) = true ∨ x = 0 ∧ decide (0 < y) = false ∧ decide (z ≤ 0) = true) ∧ (ka == kb) = true ∧ (na == nb) = true ∧ (sa.toList == sb.toList) = true) :
    Calls Tryd.prog 5 #[vv ka na sa, vv kb nb sb, vv kc nc sc] w fun e w' => e = .returned (.bool true) ∧ Below w.heap.size w w' := by
  rcases hx with ⟨rfl | ⟨rfl, hy⟩ | ⟨rfl, hy, hz, hz'⟩, hq | ⟨hq1, hq⟩ | ⟨hq1, hq2, hq⟩⟩ | ⟨⟨rfl, hy⟩ | ⟨rfl, hy, hz⟩, hq1, hq2, hq⟩
  all_goals
   go_enter Tryd.func5, Tryd.ntmps5
   go_wp2
   have hB := boxes3 w ka na kb nb kc nc sa sb sc
   have hbW : Below w.heap.size w (((w.alloc (.cells #[.int .i64 ka, .int .i64 na, .string sa] 23)).alloc (.cells #[.int .i64 kb, .int .i64 nb, .string sb] 23)).alloc (.cells #[.int .i64 kc, .int .i64 nc, .string sc] 23)) := (((Below.refl _ _).alloc (Nat.le_refl _) _).alloc (by simp) _).alloc (by simp; omega) _
   generalize (((w.alloc (.cells #[.int .i64 ka, .int .i64 na, .string sa] 23)).alloc (.cells #[.int .i64 kb, .int .i64 nb, .string sb] 23)).alloc (.cells #[.int .i64 kc, .int .i64 nc, .string sc] 23)) = W at hB hbW ⊢
   obtain ⟨a0, a1, a2, b0, b1, b2, c0, c1, c2⟩ := hB
   go_region_held3 (fun w' => w'.cell? ⟨w.heap.size, 0, none⟩ = some (.int .i64 ka) ∧ w'.cell? ⟨w.heap.size, 1, none⟩ = some (.int .i64 na) ∧ w'.cell? ⟨w.heap.size, 2, none⟩ = some (.string sa) ∧ w'.cell? ⟨w.heap.size + 1, 0, none⟩ = some (.int .i64 kb) ∧ w'.cell? ⟨w.heap.size + 1, 1, none⟩ = some (.int .i64 nb) ∧ w'.cell? ⟨w.heap.size + 1, 2, none⟩ = some (.string sb) ∧ w'.cell? ⟨w.heap.size + 1 + 1, 0, none⟩ = some (.int .i64 kc) ∧ w'.cell? ⟨w.heap.size + 1 + 1, 1, none⟩ = some (.int .i64 nc) ∧ w'.cell? ⟨w.heap.size + 1 + 1, 2, none⟩ = some (.string sc)) (go_keep) (first | (go_at_call 11; refine (compare_v _ _ _ _ _ _ _).mono ?_; rintro e w' ⟨rfl, hb, hk⟩; (first | rw [unhide HX] | rw [unhide HY] | rw [unhide HZ])))
   rename_i w1 hb1 hk1 w2 hb2 hk2 hS
   have hw3 : Below w.heap.size w w' := bt (bt (bt hbW.drew hb1) hb2) hb
   clear a0 a1 a2 b0 b1 b2 c0 c1 c2 hk1 hk2 hk
   obtain ⟨a0, a1, a2, b0, b1, b2, c0, c1, c2⟩ := hS
   go_wp2_with (go_at_call 11; refine (compare_v _ _ _ _ _ _ _).mono ?_; rintro e w4 ⟨rfl, hb4, hk4⟩; rw [unhide HB]; refine Hid.out ?_)
   have a0 := hk4 _ _ _ a0
   have a1 := hk4 _ _ _ a1
   have a2 := hk4 _ _ _ a2
   have b0 := hk4 _ _ _ b0
   have b1 := hk4 _ _ _ b1
   have b2 := hk4 _ _ _ b2
   clear hk4
   have hw4 := bt hw3 hb4
   refine Lib.hid ?_
   go_wp2_with (go_at_call 15; refine (wakes_any _ (he.on hw4)).mono ?_; rintro e w7 ⟨rfl, k7⟩)
   go_ret
   exact ⟨rfl, bt hw4 k7⟩

set_option maxHeartbeats 1000000 in
theorem order_long (ka na kb nb kc nc : Int) (sa sb sc : ByteArray) (w : World)
    (h : decide (200 < (sa.size : Int)) = true ∨ decide (200 < (sa.size : Int)) = false ∧ decide (200 < (sb.size : Int)) = true ∨ decide (200 < (sa.size : Int)) = false ∧ decide (200 < (sb.size : Int)) = false ∧ decide (200 < (sc.size : Int)) = true) :
    Calls Tryd.prog 5 #[vv ka na sa, vv kb nb sb, vv kc nc sc] w fun e w' => e = .returned (.bool true) ∧ Below w.heap.size w w' := by
  rcases h with h | ⟨h, h'⟩ | ⟨h, h', h''⟩
  all_goals
   go_enter Tryd.func5, Tryd.ntmps5
   go_wp2
   go_ret
   exact ⟨rfl, (((Below.refl _ _).alloc (Nat.le_refl _) _).alloc (by simp) _).alloc (by simp; omega) _⟩

theorem toList_inj {a b : ByteArray} (h : a.data.toList = b.data.toList) : a = b := by
  cases a; cases b; simp at h; subst h; rfl

theorem order_any (ka na kb nb kc nc : Int) (sa sb sc : ByteArray) (w : World) (he : Env w) :
    Calls Tryd.prog 5 #[vv ka na sa, vv kb nb sb, vv kc nc sc] w fun e w' => e = .returned (.bool true) ∧ Below w.heap.size w w' := by
  cases da : decide (200 < (sa.size : Int))
  · cases db : decide (200 < (sb.size : Int))
    · cases dc : decide (200 < (sc.size : Int))
      · have O := ord_val
        have tx := O.tri (tv ka na sa) (tv kb nb sb)
        have ty := O.tri (tv kb nb sb) (tv kc nc sc)
        have tz := O.tri (tv ka na sa) (tv kc nc sc)
        have zx := O.zero (tv ka na sa) (tv kb nb sb)
        have zy := O.zero (tv kb nb sb) (tv kc nc sc)
        have hab := O.anti (tv ka na sa) (tv kb nb sb)
        have htr := O.trans (tv ka na sa) (tv kb nb sb) (tv kc nc sc)
        have hE : (cmpV (tv ka na sa) (tv kb nb sb) ≠ 0 ∧ ((ka == kb) = false ∨ (ka == kb) = true ∧ (na == nb) = false ∨ (ka == kb) = true ∧ (na == nb) = true ∧ (sa.toList == sb.toList) = false)) ∨ (tv ka na sa = tv kb nb sb ∧ (ka == kb) = true ∧ (na == nb) = true ∧ (sa.toList == sb.toList) = true) := by
          by_cases h : tv ka na sa = tv kb nb sb
          · have h' := h
            simp only [Prod.mk.injEq] at h'
            obtain ⟨h1, h2, h3⟩ := h'
            refine Or.inr ⟨h, by simp [h1], by simp [h2], ?_⟩
            rw [ByteArray.toList_eq, ByteArray.toList_eq, h3]; simp
          · refine Or.inl ⟨fun h0 => h (zx.1 h0), ?_⟩
            by_cases h1 : ka = kb
            · by_cases h2 : na = nb
              · refine Or.inr (Or.inr ⟨by simp [h1], by simp [h2], ?_⟩)
                rw [beq_eq_false_iff_ne, ByteArray.toList_eq, ByteArray.toList_eq]
                intro h3
                exact h (by rw [h1, h2]; simp only [Prod.mk.injEq, h3, and_self])
              · exact Or.inr (Or.inl ⟨by simp [h1], by simp [h2]⟩)
            · exact Or.inl (by simp [h1])
        refine order_walk ka na kb nb kc nc sa sb sc w he da db dc _ _ _ (hide rfl) (hide rfl) (hide rfl) (hide hab) ?_
        rcases hE with ⟨hne, hE⟩ | ⟨heq, hE⟩
        · refine Or.inl ⟨?_, hE⟩
          rcases tx with h | h | h
          · by_cases hy : 0 < cmpV (tv kb nb sb) (tv kc nc sc)
            · exact Or.inr (Or.inl ⟨h, decide_eq_true hy⟩)
            · have hz : cmpV (tv ka na sa) (tv kc nc sc) = -1 := by
                rcases ty with k | k | k
                · exact htr h k
                · rw [← zy.1 k]; exact h
                · omega
              exact Or.inr (Or.inr ⟨h, decide_eq_false hy, decide_eq_true (by omega), decide_eq_true (by omega)⟩)
          · exact absurd h hne
          · exact Or.inl h
        · refine Or.inr ⟨?_, hE⟩
          have h0 := zx.2 heq
          by_cases hy : 0 < cmpV (tv kb nb sb) (tv kc nc sc)
          · exact Or.inl ⟨h0, decide_eq_true hy⟩
          · exact Or.inr ⟨h0, decide_eq_false hy, decide_eq_true (by rw [heq]; omega)⟩
      · exact order_long ka na kb nb kc nc sa sb sc w (Or.inr (Or.inr ⟨da, db, dc⟩))
    · exact order_long ka na kb nb kc nc sa sb sc w (Or.inr (Or.inl ⟨da, db⟩))
  · exact order_long ka na kb nb kc nc sa sb sc w (Or.inl da)
end Go.Proofs.YthhfahfgfcicbaaDoor

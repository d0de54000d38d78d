/- The walk of constablelaw01.ValBack: it answers true, whatever the two values and the text. -/
import Derived.Test.YthhfahfgfcicbaaDoorOwnG
import Derived.Test.YthhfahfgfcicbaaDoorOwnP
namespace Go.Proofs.YthhfahfgfcicbaaDoor
open Go.RowKit
open V

theorem bytes_of {r : List UInt8} {s : ByteArray} (h : s.data.toList = r) : (⟨r.toArray⟩ : ByteArray) = s := by subst h; exact str_of s
theorem parse_str (s sr : ByteArray) (k n : Int) (w : World) (hs : s.size ≤ 1000) (he : Env w) (h : parseL s.data.toList = some (k, n, sr.data.toList)) :
    Calls Tryd.prog 9 #[.string s] w fun e w' => e = .returned (.tuple #[.agg #[.int .i64 k, .int .i64 n, .string sr], .int .i64 0]) ∧ Below w.heap.size w w' := by
  refine (parse_ok s k n sr.data.toList w hs he h).mono ?_
  rintro e w' ⟨rfl, hb⟩
  exact ⟨by rw [bytes_of rfl], hb⟩
theorem text_str (k n : Int) (s t : ByteArray) (w : World) (hs : s.size ≤ 1000) (he : Env w) (hr : rightB k n s.data.toList = true) (ht : t.data.toList = textL k n s.data.toList) :
    Calls Tryd.prog 8 #[.agg #[.int .i64 k, .int .i64 n, .string s]] w fun e w' => e = .returned (.tuple #[.string t, .int .i64 0]) ∧ Below w.heap.size w w' := by
  refine (text_ok k n s w hs he hr).mono ?_
  rintro e w' ⟨rfl, hb⟩
  exact ⟨ret_ss (bytes_of ht), hb⟩

/-- Two boxed values stand in a world, from block b on. -/
structure Two (b : Nat) (ka na kb nb : Int) (sa sb : ByteArray) (W : World) : Prop where
  a0 : W.cell? ⟨b, 0, none⟩ = some (.int .i64 ka)
  a1 : W.cell? ⟨b, 1, none⟩ = some (.int .i64 na)
  a2 : W.cell? ⟨b, 2, none⟩ = some (.string sa)
  b0 : W.cell? ⟨b + 1, 0, none⟩ = some (.int .i64 kb)
  b1 : W.cell? ⟨b + 1, 1, none⟩ = some (.int .i64 nb)
  b2 : W.cell? ⟨b + 1, 2, none⟩ = some (.string sb)
  lt0 : b < W.heap.size
  lt : b + 1 < W.heap.size
theorem cell_lt {W : World} {p : Addr} {v : Value} (h : W.cell? p = some v) : p.block < W.heap.size := by
  rcases Nat.lt_or_ge p.block W.heap.size with h' | h'
  · exact h'
  · simp [World.cell?, Array.getElem?_eq_none h'] at h
theorem cell_on {W w1 : World} {p : Addr} {v : Value} (hb : Below W.heap.size W w1) (h : W.cell? p = some v) : w1.cell? p = some v := by
  rw [hb.cell (cell_lt h)]; exact h
theorem Two.on {b : Nat} {ka na kb nb : Int} {sa sb : ByteArray} {W w1 : World} (h : Two b ka na kb nb sa sb W) (hb : Below W.heap.size W w1) : Two b ka na kb nb sa sb w1 :=
  ⟨cell_on hb h.a0, cell_on hb h.a1, cell_on hb h.a2, cell_on hb h.b0, cell_on hb h.b1, cell_on hb h.b2, Nat.lt_of_lt_of_le h.lt0 hb.size, Nat.lt_of_lt_of_le h.lt hb.size⟩
theorem cells_at {W : World} {b : Nat} {x y z : Value} {T : TypeId} (h : W.heap[b]? = some (.cells #[x, y, z] T)) : W.cell? ⟨b, 0, none⟩ = some x ∧ W.cell? ⟨b, 1, none⟩ = some y ∧ W.cell? ⟨b, 2, none⟩ = some z :=
  ⟨by rw [Lib.cell_of_heap h]; rfl, by rw [Lib.cell_of_heap h]; rfl, by rw [Lib.cell_of_heap h]; rfl⟩
theorem two_new (w : World) (ka na kb nb : Int) (sa sb : ByteArray) : Two w.heap.size ka na kb nb sa sb ((w.alloc (.cells #[.int .i64 ka, .int .i64 na, .string sa] 23)).alloc (.cells #[.int .i64 kb, .int .i64 nb, .string sb] 23)) := by
  have s1 : (w.alloc (.cells #[.int .i64 ka, .int .i64 na, .string sa] 23)).heap.size = w.heap.size + 1 := by simp
  have h2 := heap_alloc_new (w.alloc (.cells #[.int .i64 ka, .int .i64 na, .string sa] 23)) (.cells #[.int .i64 kb, .int .i64 nb, .string sb] 23)
  have h1 := heap_alloc_new w (.cells #[.int .i64 ka, .int .i64 na, .string sa] 23)
  rw [s1] at h2
  rw [← Lib.alloc_old _ (.cells #[.int .i64 kb, .int .i64 nb, .string sb] 23) _ (by rw [s1]; omega)] at h1
  obtain ⟨x0, x1, x2⟩ := cells_at h1
  obtain ⟨y0, y1, y2⟩ := cells_at h2
  exact ⟨x0, x1, x2, y0, y1, y2, by simp; omega, by simp⟩

set_option maxHeartbeats 4000000 in
theorem back_N_bad_bad (ka na kb nb : Int) (sa sb s : ByteArray) (w : World) (he : Env w) (_la : sa.size ≤ 1000) (_lb : sb.size ≤ 1000) (ls : s.size ≤ 1000)
    (da : decide (200 < (sa.size : Int)) = false) (db : decide (200 < (sb.size : Int)) = false) (ds : decide (200 < (s.size : Int)) = false)
    (la' : sa.size ≤ maxLen) (lb' : sb.size ≤ maxLen)
    (HP : Hid (parseL s.data.toList = none))
    (HA : Hid (rightB ka na sa.data.toList = false)) (HB : Hid (rightB kb nb sb.data.toList = false)) :
    Calls Tryd.prog 4 #[.agg #[.int .i64 ka, .int .i64 na, .string sa], .agg #[.int .i64 kb, .int .i64 nb, .string sb], .string s] w fun e w' => e = .returned (.bool true) ∧ Below w.heap.size w w' := by
  go_enter Tryd.func4, Tryd.ntmps4
  go_wp2_with fail
  have hT := two_new w ka na kb nb sa sb
  have hW : Below w.heap.size w ((w.alloc (.cells #[.int .i64 ka, .int .i64 na, .string sa] 23)).alloc (.cells #[.int .i64 kb, .int .i64 nb, .string sb] 23)) := ((Below.refl _ _).alloc (Nat.le_refl _) _).alloc (by simp) _
  generalize ((w.alloc (.cells #[.int .i64 ka, .int .i64 na, .string sa] 23)).alloc (.cells #[.int .i64 kb, .int .i64 nb, .string sb] 23)) = W at hT hW ⊢
  refine (parse_no s W ls (he.on hW) (unhide HP)).mono ?_
  rintro e w1 ⟨rfl, k1⟩
  have hT1 := hT.on k1
  obtain ⟨a0, a1, a2, b0, b1, b2, lt0, lt⟩ := hT1
  go_wp2_with fail
  have hX := bt hW (k1.alloc k1.size (.cells #[.int .i64 0, .int .i64 0, .string ⟨#[]⟩] 23))
  have hTX := hT.on (k1.alloc k1.size (.cells #[.int .i64 0, .int .i64 0, .string ⟨#[]⟩] 23))
  clear a0 a1 a2 b0 b1 b2 lt0 lt hT k1
  generalize (w1.alloc (.cells #[.int .i64 0, .int .i64 0, .string ⟨#[]⟩] 23)) = X at hX hTX ⊢
  refine (text_bad _ _ _ _ la' (unhide HA)).mono ?_
  rintro e w2 ⟨rfl, k2'⟩
  have hw2 := bt hX k2'
  have hT2 := hTX.on k2'
  clear hTX
  obtain ⟨a0, a1, a2, b0, b1, b2, lt0, lt⟩ := hT2
  go_wp2_with fail
  refine (text_bad _ _ _ _ lb' (unhide HB)).mono ?_
  rintro e w3 ⟨rfl, k3⟩
  have hw3 := bt hw2 k3
  have hT3 := (Two.mk a0 a1 a2 b0 b1 b2 lt0 lt).on k3
  clear a0 a1 a2 b0 b1 b2 lt0 lt
  go_wp2_with (go_at_call 15; refine (wakes_any _ (he.on hw3)).mono ?_; rintro e w7 ⟨rfl, k7⟩)
  go_ret
  exact ⟨rfl, bt hw3 k7⟩

set_option maxHeartbeats 4000000 in
theorem back_N_bad_ok (ka na kb nb : Int) (sa sb s : ByteArray) (w : World) (he : Env w) (_la : sa.size ≤ 1000) (lb : sb.size ≤ 1000) (ls : s.size ≤ 1000)
    (da : decide (200 < (sa.size : Int)) = false) (db : decide (200 < (sb.size : Int)) = false) (ds : decide (200 < (s.size : Int)) = false)
    (la' : sa.size ≤ maxLen) (_lb' : sb.size ≤ maxLen)
    (HP : Hid (parseL s.data.toList = none))
    (HA : Hid (rightB ka na sa.data.toList = false)) (HB : Hid (rightB kb nb sb.data.toList = true)) (tb : ByteArray) (HTB : Hid (tb.data.toList = textL kb nb sb.data.toList)) :
    Calls Tryd.prog 4 #[.agg #[.int .i64 ka, .int .i64 na, .string sa], .agg #[.int .i64 kb, .int .i64 nb, .string sb], .string s] w fun e w' => e = .returned (.bool true) ∧ Below w.heap.size w w' := by
  go_enter Tryd.func4, Tryd.ntmps4
  go_wp2_with fail
  have hT := two_new w ka na kb nb sa sb
  have hW : Below w.heap.size w ((w.alloc (.cells #[.int .i64 ka, .int .i64 na, .string sa] 23)).alloc (.cells #[.int .i64 kb, .int .i64 nb, .string sb] 23)) := ((Below.refl _ _).alloc (Nat.le_refl _) _).alloc (by simp) _
  generalize ((w.alloc (.cells #[.int .i64 ka, .int .i64 na, .string sa] 23)).alloc (.cells #[.int .i64 kb, .int .i64 nb, .string sb] 23)) = W at hT hW ⊢
  refine (parse_no s W ls (he.on hW) (unhide HP)).mono ?_
  rintro e w1 ⟨rfl, k1⟩
  have hT1 := hT.on k1
  obtain ⟨a0, a1, a2, b0, b1, b2, lt0, lt⟩ := hT1
  go_wp2_with fail
  have hX := bt hW (k1.alloc k1.size (.cells #[.int .i64 0, .int .i64 0, .string ⟨#[]⟩] 23))
  have hTX := hT.on (k1.alloc k1.size (.cells #[.int .i64 0, .int .i64 0, .string ⟨#[]⟩] 23))
  clear a0 a1 a2 b0 b1 b2 lt0 lt hT k1
  generalize (w1.alloc (.cells #[.int .i64 0, .int .i64 0, .string ⟨#[]⟩] 23)) = X at hX hTX ⊢
  refine (text_bad _ _ _ _ la' (unhide HA)).mono ?_
  rintro e w2 ⟨rfl, k2'⟩
  have hw2 := bt hX k2'
  have hT2 := hTX.on k2'
  clear hTX
  obtain ⟨a0, a1, a2, b0, b1, b2, lt0, lt⟩ := hT2
  go_wp2_with fail
  refine (text_str _ _ _ tb _ lb (he.on hw2) (unhide HB) (unhide HTB)).mono ?_
  rintro e w3 ⟨rfl, k3⟩
  have hw3 := bt hw2 k3
  have hT3 := (Two.mk a0 a1 a2 b0 b1 b2 lt0 lt).on k3
  clear a0 a1 a2 b0 b1 b2 lt0 lt
  go_wp2_with (go_at_call 15; refine (wakes_any _ (he.on hw3)).mono ?_; rintro e w7 ⟨rfl, k7⟩)
  go_ret
  exact ⟨rfl, bt hw3 k7⟩

set_option maxHeartbeats 4000000 in
theorem back_N_ok_bad (ka na kb nb : Int) (sa sb s : ByteArray) (w : World) (he : Env w) (la : sa.size ≤ 1000) (_lb : sb.size ≤ 1000) (ls : s.size ≤ 1000)
    (da : decide (200 < (sa.size : Int)) = false) (db : decide (200 < (sb.size : Int)) = false) (ds : decide (200 < (s.size : Int)) = false)
    (_la' : sa.size ≤ maxLen) (lb' : sb.size ≤ maxLen)
    (HP : Hid (parseL s.data.toList = none))
    (HA : Hid (rightB ka na sa.data.toList = true)) (ta : ByteArray) (HTA : Hid (ta.data.toList = textL ka na sa.data.toList)) (HB : Hid (rightB kb nb sb.data.toList = false)) :
    Calls Tryd.prog 4 #[.agg #[.int .i64 ka, .int .i64 na, .string sa], .agg #[.int .i64 kb, .int .i64 nb, .string sb], .string s] w fun e w' => e = .returned (.bool true) ∧ Below w.heap.size w w' := by
  go_enter Tryd.func4, Tryd.ntmps4
  go_wp2_with fail
  have hT := two_new w ka na kb nb sa sb
  have hW : Below w.heap.size w ((w.alloc (.cells #[.int .i64 ka, .int .i64 na, .string sa] 23)).alloc (.cells #[.int .i64 kb, .int .i64 nb, .string sb] 23)) := ((Below.refl _ _).alloc (Nat.le_refl _) _).alloc (by simp) _
  generalize ((w.alloc (.cells #[.int .i64 ka, .int .i64 na, .string sa] 23)).alloc (.cells #[.int .i64 kb, .int .i64 nb, .string sb] 23)) = W at hT hW ⊢
  refine (parse_no s W ls (he.on hW) (unhide HP)).mono ?_
  rintro e w1 ⟨rfl, k1⟩
  have hT1 := hT.on k1
  obtain ⟨a0, a1, a2, b0, b1, b2, lt0, lt⟩ := hT1
  go_wp2_with fail
  have hX := bt hW (k1.alloc k1.size (.cells #[.int .i64 0, .int .i64 0, .string ⟨#[]⟩] 23))
  have hTX := hT.on (k1.alloc k1.size (.cells #[.int .i64 0, .int .i64 0, .string ⟨#[]⟩] 23))
  clear a0 a1 a2 b0 b1 b2 lt0 lt hT k1
  generalize (w1.alloc (.cells #[.int .i64 0, .int .i64 0, .string ⟨#[]⟩] 23)) = X at hX hTX ⊢
  refine (text_str _ _ _ ta _ la (he.on hX) (unhide HA) (unhide HTA)).mono ?_
  rintro e w2 ⟨rfl, k2'⟩
  have hw2 := bt hX k2'
  have hT2 := hTX.on k2'
  clear hTX
  obtain ⟨a0, a1, a2, b0, b1, b2, lt0, lt⟩ := hT2
  go_wp2_with fail
  refine (text_bad _ _ _ _ lb' (unhide HB)).mono ?_
  rintro e w3 ⟨rfl, k3⟩
  have hw3 := bt hw2 k3
  have hT3 := (Two.mk a0 a1 a2 b0 b1 b2 lt0 lt).on k3
  clear a0 a1 a2 b0 b1 b2 lt0 lt
  go_wp2_with (go_at_call 15; refine (wakes_any _ (he.on hw3)).mono ?_; rintro e w7 ⟨rfl, k7⟩)
  go_ret
  exact ⟨rfl, bt hw3 k7⟩

set_option maxHeartbeats 4000000 in
theorem back_N_ok_ok (ka na kb nb : Int) (sa sb s : ByteArray) (w : World) (he : Env w) (la : sa.size ≤ 1000) (lb : sb.size ≤ 1000) (ls : s.size ≤ 1000)
    (da : decide (200 < (sa.size : Int)) = false) (db : decide (200 < (sb.size : Int)) = false) (ds : decide (200 < (s.size : Int)) = false)
    (_la' : sa.size ≤ maxLen) (_lb' : sb.size ≤ maxLen)
    (HP : Hid (parseL s.data.toList = none))
    (HA : Hid (rightB ka na sa.data.toList = true)) (ta : ByteArray) (HTA : Hid (ta.data.toList = textL ka na sa.data.toList)) (HB : Hid (rightB kb nb sb.data.toList = true)) (tb : ByteArray) (HTB : Hid (tb.data.toList = textL kb nb sb.data.toList))
    (lta : ta.size ≤ 1000) (HPA : Hid (parseL ta.data.toList = some (ka, na, sa.data.toList)))
    (hq : (ka == kb) = false ∧ (ta.toList == tb.toList) = false ∨ ((ka == kb) = true ∧ (na == nb) = false) ∧ (ta.toList == tb.toList) = false ∨ ((ka == kb) = true ∧ (na == nb) = true ∧ (sa.toList == sb.toList) = false) ∧ (ta.toList == tb.toList) = false ∨ ((ka == kb) = true ∧ (na == nb) = true ∧ (sa.toList == sb.toList) = true) ∧ (ta.toList == tb.toList) = true) :
    Calls Tryd.prog 4 #[.agg #[.int .i64 ka, .int .i64 na, .string sa], .agg #[.int .i64 kb, .int .i64 nb, .string sb], .string s] w fun e w' => e = .returned (.bool true) ∧ Below w.heap.size w w' := by
  rcases hq with ⟨q1, q0⟩ | ⟨⟨q1, q2⟩, q0⟩ | ⟨⟨q1, q2, q3⟩, q0⟩ | ⟨⟨q1, q2, q3⟩, q0⟩
  all_goals
   go_enter Tryd.func4, Tryd.ntmps4
   go_wp2_with fail
   have hT := two_new w ka na kb nb sa sb
   have hW : Below w.heap.size w ((w.alloc (.cells #[.int .i64 ka, .int .i64 na, .string sa] 23)).alloc (.cells #[.int .i64 kb, .int .i64 nb, .string sb] 23)) := ((Below.refl _ _).alloc (Nat.le_refl _) _).alloc (by simp) _
   generalize ((w.alloc (.cells #[.int .i64 ka, .int .i64 na, .string sa] 23)).alloc (.cells #[.int .i64 kb, .int .i64 nb, .string sb] 23)) = W at hT hW ⊢
   refine (parse_no s W ls (he.on hW) (unhide HP)).mono ?_
   rintro e w1 ⟨rfl, k1⟩
   have hT1 := hT.on k1
   obtain ⟨a0, a1, a2, b0, b1, b2, lt0, lt⟩ := hT1
   go_wp2_with fail
   have hX := bt hW (k1.alloc k1.size (.cells #[.int .i64 0, .int .i64 0, .string ⟨#[]⟩] 23))
   have hTX := hT.on (k1.alloc k1.size (.cells #[.int .i64 0, .int .i64 0, .string ⟨#[]⟩] 23))
   clear a0 a1 a2 b0 b1 b2 lt0 lt hT k1
   generalize (w1.alloc (.cells #[.int .i64 0, .int .i64 0, .string ⟨#[]⟩] 23)) = X at hX hTX ⊢
   refine (text_str _ _ _ ta _ la (he.on hX) (unhide HA) (unhide HTA)).mono ?_
   rintro e w2 ⟨rfl, k2'⟩
   have hw2 := bt hX k2'
   have hT2 := hTX.on k2'
   clear hTX
   obtain ⟨a0, a1, a2, b0, b1, b2, lt0, lt⟩ := hT2
   go_wp2_with fail
   refine (text_str _ _ _ tb _ lb (he.on hw2) (unhide HB) (unhide HTB)).mono ?_
   rintro e w3 ⟨rfl, k3⟩
   have hw3 := bt hw2 k3
   have hT3 := (Two.mk a0 a1 a2 b0 b1 b2 lt0 lt).on k3
   clear a0 a1 a2 b0 b1 b2 lt0 lt
   go_wp2_with fail
   refine (parse_str ta sa ka na w3 lta (he.on hw3) (unhide HPA)).mono ?_
   rintro e w4 ⟨rfl, k4⟩
   have hw4 := bt hw3 k4
   obtain ⟨a0, a1, a2, b0, b1, b2, lt0, lt⟩ := hT3.on k4
   clear hT3
   go_wp2_with (go_at_call 15; refine (wakes_any _ (he.on (hw4.alloc hw4.size _))).mono ?_; rintro e w7 ⟨rfl, k7⟩)
   go_ret
   exact ⟨rfl, bt (hw4.alloc hw4.size _) k7⟩

set_option maxHeartbeats 4000000 in
theorem back_S_bad_bad (ka na kb nb : Int) (sa sb s : ByteArray) (w : World) (he : Env w) (_la : sa.size ≤ 1000) (_lb : sb.size ≤ 1000) (ls : s.size ≤ 1000)
    (da : decide (200 < (sa.size : Int)) = false) (db : decide (200 < (sb.size : Int)) = false) (ds : decide (200 < (s.size : Int)) = false)
    (la' : sa.size ≤ maxLen) (lb' : sb.size ≤ maxLen)
    (k n : Int) (r : ByteArray) (lr : r.size ≤ 1000) (HP : Hid (parseL s.data.toList = some (k, n, r.data.toList))) (HQ : Hid (rightB k n r.data.toList = true)) (HT : Hid (s.data.toList = textL k n r.data.toList))
    (HA : Hid (rightB ka na sa.data.toList = false)) (HB : Hid (rightB kb nb sb.data.toList = false)) :
    Calls Tryd.prog 4 #[.agg #[.int .i64 ka, .int .i64 na, .string sa], .agg #[.int .i64 kb, .int .i64 nb, .string sb], .string s] w fun e w' => e = .returned (.bool true) ∧ Below w.heap.size w w' := by
  go_enter Tryd.func4, Tryd.ntmps4
  go_wp2_with fail
  have hT := two_new w ka na kb nb sa sb
  have hW : Below w.heap.size w ((w.alloc (.cells #[.int .i64 ka, .int .i64 na, .string sa] 23)).alloc (.cells #[.int .i64 kb, .int .i64 nb, .string sb] 23)) := ((Below.refl _ _).alloc (Nat.le_refl _) _).alloc (by simp) _
  generalize ((w.alloc (.cells #[.int .i64 ka, .int .i64 na, .string sa] 23)).alloc (.cells #[.int .i64 kb, .int .i64 nb, .string sb] 23)) = W at hT hW ⊢
  refine (parse_str s r k n W ls (he.on hW) (unhide HP)).mono ?_
  rintro e w1 ⟨rfl, k1⟩
  have hT1 := hT.on k1
  obtain ⟨a0, a1, a2, b0, b1, b2, lt0, lt⟩ := hT1
  go_wp2_with (go_at_call 8; refine (text_str k n r s _ lr ?_ (unhide HQ) (unhide HT)).mono ?_; exact he.on (bt hW (k1.alloc k1.size _)); rintro e X ⟨rfl, k2⟩; refine Hid.out ?_)
  have kX := bt k1 (below_box k2)
  have hX := bt hW kX
  have hTX := hT.on kX
  clear a0 a1 a2 b0 b1 b2 lt0 lt hT
  obtain ⟨a0, a1, a2, b0, b1, b2, lt0, lt⟩ := hTX
  refine Lib.hid ?_
  go_wp2_with fail
  have hTX : Two w.heap.size ka na kb nb sa sb X := ⟨a0, a1, a2, b0, b1, b2, lt0, lt⟩
  clear a0 a1 a2 b0 b1 b2 lt0 lt
  refine (text_bad _ _ _ _ la' (unhide HA)).mono ?_
  rintro e w2 ⟨rfl, k2'⟩
  have hw2 := bt hX k2'
  have hT2 := hTX.on k2'
  clear hTX
  obtain ⟨a0, a1, a2, b0, b1, b2, lt0, lt⟩ := hT2
  go_wp2_with fail
  refine (text_bad _ _ _ _ lb' (unhide HB)).mono ?_
  rintro e w3 ⟨rfl, k3⟩
  have hw3 := bt hw2 k3
  have hT3 := (Two.mk a0 a1 a2 b0 b1 b2 lt0 lt).on k3
  clear a0 a1 a2 b0 b1 b2 lt0 lt
  go_wp2_with (go_at_call 15; refine (wakes_any _ (he.on hw3)).mono ?_; rintro e w7 ⟨rfl, k7⟩)
  go_ret
  exact ⟨rfl, bt hw3 k7⟩

set_option maxHeartbeats 4000000 in
theorem back_S_bad_ok (ka na kb nb : Int) (sa sb s : ByteArray) (w : World) (he : Env w) (_la : sa.size ≤ 1000) (lb : sb.size ≤ 1000) (ls : s.size ≤ 1000)
    (da : decide (200 < (sa.size : Int)) = false) (db : decide (200 < (sb.size : Int)) = false) (ds : decide (200 < (s.size : Int)) = false)
    (la' : sa.size ≤ maxLen) (_lb' : sb.size ≤ maxLen)
    (k n : Int) (r : ByteArray) (lr : r.size ≤ 1000) (HP : Hid (parseL s.data.toList = some (k, n, r.data.toList))) (HQ : Hid (rightB k n r.data.toList = true)) (HT : Hid (s.data.toList = textL k n r.data.toList))
    (HA : Hid (rightB ka na sa.data.toList = false)) (HB : Hid (rightB kb nb sb.data.toList = true)) (tb : ByteArray) (HTB : Hid (tb.data.toList = textL kb nb sb.data.toList)) :
    Calls Tryd.prog 4 #[.agg #[.int .i64 ka, .int .i64 na, .string sa], .agg #[.int .i64 kb, .int .i64 nb, .string sb], .string s] w fun e w' => e = .returned (.bool true) ∧ Below w.heap.size w w' := by
  go_enter Tryd.func4, Tryd.ntmps4
  go_wp2_with fail
  have hT := two_new w ka na kb nb sa sb
  have hW : Below w.heap.size w ((w.alloc (.cells #[.int .i64 ka, .int .i64 na, .string sa] 23)).alloc (.cells #[.int .i64 kb, .int .i64 nb, .string sb] 23)) := ((Below.refl _ _).alloc (Nat.le_refl _) _).alloc (by simp) _
  generalize ((w.alloc (.cells #[.int .i64 ka, .int .i64 na, .string sa] 23)).alloc (.cells #[.int .i64 kb, .int .i64 nb, .string sb] 23)) = W at hT hW ⊢
  refine (parse_str s r k n W ls (he.on hW) (unhide HP)).mono ?_
  rintro e w1 ⟨rfl, k1⟩
  have hT1 := hT.on k1
  obtain ⟨a0, a1, a2, b0, b1, b2, lt0, lt⟩ := hT1
  go_wp2_with (go_at_call 8; refine (text_str k n r s _ lr ?_ (unhide HQ) (unhide HT)).mono ?_; exact he.on (bt hW (k1.alloc k1.size _)); rintro e X ⟨rfl, k2⟩; refine Hid.out ?_)
  have kX := bt k1 (below_box k2)
  have hX := bt hW kX
  have hTX := hT.on kX
  clear a0 a1 a2 b0 b1 b2 lt0 lt hT
  obtain ⟨a0, a1, a2, b0, b1, b2, lt0, lt⟩ := hTX
  refine Lib.hid ?_
  go_wp2_with fail
  have hTX : Two w.heap.size ka na kb nb sa sb X := ⟨a0, a1, a2, b0, b1, b2, lt0, lt⟩
  clear a0 a1 a2 b0 b1 b2 lt0 lt
  refine (text_bad _ _ _ _ la' (unhide HA)).mono ?_
  rintro e w2 ⟨rfl, k2'⟩
  have hw2 := bt hX k2'
  have hT2 := hTX.on k2'
  clear hTX
  obtain ⟨a0, a1, a2, b0, b1, b2, lt0, lt⟩ := hT2
  go_wp2_with fail
  refine (text_str _ _ _ tb _ lb (he.on hw2) (unhide HB) (unhide HTB)).mono ?_
  rintro e w3 ⟨rfl, k3⟩
  have hw3 := bt hw2 k3
  have hT3 := (Two.mk a0 a1 a2 b0 b1 b2 lt0 lt).on k3
  clear a0 a1 a2 b0 b1 b2 lt0 lt
  go_wp2_with (go_at_call 15; refine (wakes_any _ (he.on hw3)).mono ?_; rintro e w7 ⟨rfl, k7⟩)
  go_ret
  exact ⟨rfl, bt hw3 k7⟩

set_option maxHeartbeats 4000000 in
theorem back_S_ok_bad (ka na kb nb : Int) (sa sb s : ByteArray) (w : World) (he : Env w) (la : sa.size ≤ 1000) (_lb : sb.size ≤ 1000) (ls : s.size ≤ 1000)
    (da : decide (200 < (sa.size : Int)) = false) (db : decide (200 < (sb.size : Int)) = false) (ds : decide (200 < (s.size : Int)) = false)
    (_la' : sa.size ≤ maxLen) (lb' : sb.size ≤ maxLen)
    (k n : Int) (r : ByteArray) (lr : r.size ≤ 1000) (HP : Hid (parseL s.data.toList = some (k, n, r.data.toList))) (HQ : Hid (rightB k n r.data.toList = true)) (HT : Hid (s.data.toList = textL k n r.data.toList))
    (HA : Hid (rightB ka na sa.data.toList = true)) (ta : ByteArray) (HTA : Hid (ta.data.toList = textL ka na sa.data.toList)) (HB : Hid (rightB kb nb sb.data.toList = false)) :
    Calls Tryd.prog 4 #[.agg #[.int .i64 ka, .int .i64 na, .string sa], .agg #[.int .i64 kb, .int .i64 nb, .string sb], .string s] w fun e w' => e = .returned (.bool true) ∧ Below w.heap.size w w' := by
  go_enter Tryd.func4, Tryd.ntmps4
  go_wp2_with fail
  have hT := two_new w ka na kb nb sa sb
  have hW : Below w.heap.size w ((w.alloc (.cells #[.int .i64 ka, .int .i64 na, .string sa] 23)).alloc (.cells #[.int .i64 kb, .int .i64 nb, .string sb] 23)) := ((Below.refl _ _).alloc (Nat.le_refl _) _).alloc (by simp) _
  generalize ((w.alloc (.cells #[.int .i64 ka, .int .i64 na, .string sa] 23)).alloc (.cells #[.int .i64 kb, .int .i64 nb, .string sb] 23)) = W at hT hW ⊢
  refine (parse_str s r k n W ls (he.on hW) (unhide HP)).mono ?_
  rintro e w1 ⟨rfl, k1⟩
  have hT1 := hT.on k1
  obtain ⟨a0, a1, a2, b0, b1, b2, lt0, lt⟩ := hT1
  go_wp2_with (go_at_call 8; refine (text_str k n r s _ lr ?_ (unhide HQ) (unhide HT)).mono ?_; exact he.on (bt hW (k1.alloc k1.size _)); rintro e X ⟨rfl, k2⟩; refine Hid.out ?_)
  have kX := bt k1 (below_box k2)
  have hX := bt hW kX
  have hTX := hT.on kX
  clear a0 a1 a2 b0 b1 b2 lt0 lt hT
  obtain ⟨a0, a1, a2, b0, b1, b2, lt0, lt⟩ := hTX
  refine Lib.hid ?_
  go_wp2_with fail
  have hTX : Two w.heap.size ka na kb nb sa sb X := ⟨a0, a1, a2, b0, b1, b2, lt0, lt⟩
  clear a0 a1 a2 b0 b1 b2 lt0 lt
  refine (text_str _ _ _ ta _ la (he.on hX) (unhide HA) (unhide HTA)).mono ?_
  rintro e w2 ⟨rfl, k2'⟩
  have hw2 := bt hX k2'
  have hT2 := hTX.on k2'
  clear hTX
  obtain ⟨a0, a1, a2, b0, b1, b2, lt0, lt⟩ := hT2
  go_wp2_with fail
  refine (text_bad _ _ _ _ lb' (unhide HB)).mono ?_
  rintro e w3 ⟨rfl, k3⟩
  have hw3 := bt hw2 k3
  have hT3 := (Two.mk a0 a1 a2 b0 b1 b2 lt0 lt).on k3
  clear a0 a1 a2 b0 b1 b2 lt0 lt
  go_wp2_with (go_at_call 15; refine (wakes_any _ (he.on hw3)).mono ?_; rintro e w7 ⟨rfl, k7⟩)
  go_ret
  exact ⟨rfl, bt hw3 k7⟩

set_option maxHeartbeats 4000000 in
theorem back_S_ok_ok (ka na kb nb : Int) (sa sb s : ByteArray) (w : World) (he : Env w) (la : sa.size ≤ 1000) (lb : sb.size ≤ 1000) (ls : s.size ≤ 1000)
    (da : decide (200 < (sa.size : Int)) = false) (db : decide (200 < (sb.size : Int)) = false) (ds : decide (200 < (s.size : Int)) = false)
    (_la' : sa.size ≤ maxLen) (_lb' : sb.size ≤ maxLen)
    (k n : Int) (r : ByteArray) (lr : r.size ≤ 1000) (HP : Hid (parseL s.data.toList = some (k, n, r.data.toList))) (HQ : Hid (rightB k n r.data.toList = true)) (HT : Hid (s.data.toList = textL k n r.data.toList))
    (HA : Hid (rightB ka na sa.data.toList = true)) (ta : ByteArray) (HTA : Hid (ta.data.toList = textL ka na sa.data.toList)) (HB : Hid (rightB kb nb sb.data.toList = true)) (tb : ByteArray) (HTB : Hid (tb.data.toList = textL kb nb sb.data.toList))
    (lta : ta.size ≤ 1000) (HPA : Hid (parseL ta.data.toList = some (ka, na, sa.data.toList)))
    (hq : (ka == kb) = false ∧ (ta.toList == tb.toList) = false ∨ ((ka == kb) = true ∧ (na == nb) = false) ∧ (ta.toList == tb.toList) = false ∨ ((ka == kb) = true ∧ (na == nb) = true ∧ (sa.toList == sb.toList) = false) ∧ (ta.toList == tb.toList) = false ∨ ((ka == kb) = true ∧ (na == nb) = true ∧ (sa.toList == sb.toList) = true) ∧ (ta.toList == tb.toList) = true) :
    Calls Tryd.prog 4 #[.agg #[.int .i64 ka, .int .i64 na, .string sa], .agg #[.int .i64 kb, .int .i64 nb, .string sb], .string s] w fun e w' => e = .returned (.bool true) ∧ Below w.heap.size w w' := by
  rcases hq with ⟨q1, q0⟩ | ⟨⟨q1, q2⟩, q0⟩ | ⟨⟨q1, q2, q3⟩, q0⟩ | ⟨⟨q1, q2, q3⟩, q0⟩
  all_goals
   go_enter Tryd.func4, Tryd.ntmps4
   go_wp2_with fail
   have hT := two_new w ka na kb nb sa sb
   have hW : Below w.heap.size w ((w.alloc (.cells #[.int .i64 ka, .int .i64 na, .string sa] 23)).alloc (.cells #[.int .i64 kb, .int .i64 nb, .string sb] 23)) := ((Below.refl _ _).alloc (Nat.le_refl _) _).alloc (by simp) _
   generalize ((w.alloc (.cells #[.int .i64 ka, .int .i64 na, .string sa] 23)).alloc (.cells #[.int .i64 kb, .int .i64 nb, .string sb] 23)) = W at hT hW ⊢
   refine (parse_str s r k n W ls (he.on hW) (unhide HP)).mono ?_
   rintro e w1 ⟨rfl, k1⟩
   have hT1 := hT.on k1
   obtain ⟨a0, a1, a2, b0, b1, b2, lt0, lt⟩ := hT1
   go_wp2_with (go_at_call 8; refine (text_str k n r s _ lr ?_ (unhide HQ) (unhide HT)).mono ?_; exact he.on (bt hW (k1.alloc k1.size _)); rintro e X ⟨rfl, k2⟩; refine Hid.out ?_)
   have kX := bt k1 (below_box k2)
   have hX := bt hW kX
   have hTX := hT.on kX
   clear a0 a1 a2 b0 b1 b2 lt0 lt hT
   obtain ⟨a0, a1, a2, b0, b1, b2, lt0, lt⟩ := hTX
   refine Lib.hid ?_
   go_wp2_with fail
   have hTX : Two w.heap.size ka na kb nb sa sb X := ⟨a0, a1, a2, b0, b1, b2, lt0, lt⟩
   clear a0 a1 a2 b0 b1 b2 lt0 lt
   refine (text_str _ _ _ ta _ la (he.on hX) (unhide HA) (unhide HTA)).mono ?_
   rintro e w2 ⟨rfl, k2'⟩
   have hw2 := bt hX k2'
   have hT2 := hTX.on k2'
   clear hTX
   obtain ⟨a0, a1, a2, b0, b1, b2, lt0, lt⟩ := hT2
   go_wp2_with fail
   refine (text_str _ _ _ tb _ lb (he.on hw2) (unhide HB) (unhide HTB)).mono ?_
   rintro e w3 ⟨rfl, k3⟩
   have hw3 := bt hw2 k3
   have hT3 := (Two.mk a0 a1 a2 b0 b1 b2 lt0 lt).on k3
   clear a0 a1 a2 b0 b1 b2 lt0 lt
   go_wp2_with fail
   refine (parse_str ta sa ka na w3 lta (he.on hw3) (unhide HPA)).mono ?_
   rintro e w4 ⟨rfl, k4⟩
   have hw4 := bt hw3 k4
   obtain ⟨a0, a1, a2, b0, b1, b2, lt0, lt⟩ := hT3.on k4
   clear hT3
   go_wp2_with (go_at_call 15; refine (wakes_any _ (he.on (hw4.alloc hw4.size _))).mono ?_; rintro e w7 ⟨rfl, k7⟩)
   go_ret
   exact ⟨rfl, bt (hw4.alloc hw4.size _) k7⟩


set_option maxHeartbeats 1000000 in
theorem back_long (ka na kb nb : Int) (sa sb s : ByteArray) (w : World)
    (h : decide (200 < (sa.size : Int)) = true ∨ decide (200 < (sa.size : Int)) = false ∧ decide (200 < (sb.size : Int)) = true ∨ decide (200 < (sa.size : Int)) = false ∧ decide (200 < (sb.size : Int)) = false ∧ decide (200 < (s.size : Int)) = true) :
    Calls Tryd.prog 4 #[.agg #[.int .i64 ka, .int .i64 na, .string sa], .agg #[.int .i64 kb, .int .i64 nb, .string sb], .string s] w fun e w' => e = .returned (.bool true) ∧ Below w.heap.size w w' := by
  rcases h with h | ⟨h, h'⟩ | ⟨h, h', h''⟩
  all_goals
   go_enter Tryd.func4, Tryd.ntmps4
   go_wp2
   go_ret
   exact ⟨rfl, ((Below.refl _ _).alloc (Nat.le_refl _) _).alloc (by simp) _⟩

theorem size_list (s : ByteArray) : s.data.toList.length = s.size := by simp
theorem size_mk (l : List UInt8) : (⟨l.toArray⟩ : ByteArray).size = l.length := by show l.toArray.size = _; simp
theorem textL_length {k n : Int} {r : List UInt8} (h : rightB k n r = true) : (textL k n r).length ≤ 122 := by
  have hv := parseL_text h
  unfold parseL at hv
  cases hx : valL (textL k n r) with
  | none => rw [hx] at hv; simp at hv
  | some t =>
    unfold valL at hx
    split at hx
    · cases hx
    · split at hx
      · cases hx
      · omega

/-- A right value's bytes are few. -/
theorem said_len {k n : Int} {r : ByteArray} (h : rightB k n r.data.toList = true) : r.size ≤ 1000 := by
  have hl := size_list r
  unfold rightB at h
  split at h
  · simp only [Bool.and_eq_true, List.isEmpty_iff] at h
    rw [h.1] at hl; simp at hl; omega
  · split at h
    · simp only [Bool.and_eq_true] at h
      obtain ⟨_, h⟩ := h
      cases hr : r.data.toList with
      | nil => rw [hr] at hl; simp at hl; omega
      | cons c q =>
        rw [hr] at h hl
        simp only [symB, Bool.and_eq_true, decide_eq_true_eq] at h
        simp at hl; omega
    · split at h
      · simp only [strB, Bool.and_eq_true, decide_eq_true_eq] at h
        omega
      · cases h

/-- Two right values are the same just if their texts are. -/
theorem back_eq {ka na kb nb : Int} {sa sb ta tb : ByteArray} (ha : rightB ka na sa.data.toList = true) (hb : rightB kb nb sb.data.toList = true) (hta : ta.data.toList = textL ka na sa.data.toList) (htb : tb.data.toList = textL kb nb sb.data.toList) :
    (ka == kb) = false ∧ (ta.toList == tb.toList) = false ∨ ((ka == kb) = true ∧ (na == nb) = false) ∧ (ta.toList == tb.toList) = false ∨ ((ka == kb) = true ∧ (na == nb) = true ∧ (sa.toList == sb.toList) = false) ∧ (ta.toList == tb.toList) = false ∨ ((ka == kb) = true ∧ (na == nb) = true ∧ (sa.toList == sb.toList) = true) ∧ (ta.toList == tb.toList) = true := by
  simp only [ByteArray.toList_eq, hta, htb, beq_iff_eq, beq_eq_false_iff_ne]
  have hpa := parseL_text ha
  have hpb := parseL_text hb
  have key : textL ka na sa.data.toList = textL kb nb sb.data.toList → ka = kb ∧ na = nb ∧ sa.data.toList = sb.data.toList := fun e => by
    rw [e, hpb] at hpa
    simp only [Option.some.injEq, Prod.mk.injEq] at hpa
    exact ⟨hpa.1.symm, hpa.2.1.symm, hpa.2.2.symm⟩
  by_cases h1 : ka = kb
  · by_cases h2 : na = nb
    · by_cases h3 : sa.data.toList = sb.data.toList
      · exact Or.inr (Or.inr (Or.inr ⟨⟨h1, h2, h3⟩, by rw [h1, h2, h3]⟩))
      · exact Or.inr (Or.inr (Or.inl ⟨⟨h1, h2, h3⟩, fun e => h3 (key e).2.2⟩))
    · exact Or.inr (Or.inl ⟨⟨h1, h2⟩, fun e => h2 (key e).2.1⟩)
  · exact Or.inl ⟨h1, fun e => h1 (key e).1⟩

theorem back_any (ka na kb nb : Int) (sa sb s : ByteArray) (w : World) (he : Env w) :
    Calls Tryd.prog 4 #[.agg #[.int .i64 ka, .int .i64 na, .string sa], .agg #[.int .i64 kb, .int .i64 nb, .string sb], .string s] w fun e w' => e = .returned (.bool true) ∧ Below w.heap.size w w' := by
  cases da : decide (200 < (sa.size : Int))
  · cases db : decide (200 < (sb.size : Int))
    · cases ds : decide (200 < (s.size : Int))
      · have la : sa.size ≤ 1000 := by simp at da; omega
        have lb : sb.size ≤ 1000 := by simp at db; omega
        have ls : s.size ≤ 1000 := by simp at ds; omega
        have la' : sa.size ≤ maxLen := by unfold maxLen; omega
        have lb' : sb.size ≤ maxLen := by unfold maxLen; omega
        cases hpa : rightB ka na sa.data.toList with
        | false =>
          cases hpb : rightB kb nb sb.data.toList with
          | false =>
            cases hp : parseL s.data.toList with
            | none => exact back_N_bad_bad ka na kb nb sa sb s w he la lb ls da db ds la' lb' (hide hp) (hide hpa) (hide hpb)
            | some t =>
              obtain ⟨k, n, r⟩ := t
              obtain ⟨q1, q2⟩ := parseL_back hp
              obtain ⟨r', rfl⟩ : ∃ r' : ByteArray, r'.data.toList = r := ⟨⟨r.toArray⟩, by simp⟩
              exact back_S_bad_bad ka na kb nb sa sb s w he la lb ls da db ds la' lb' k n r' (said_len q1) (hide hp) (hide q1) (hide q2.symm) (hide hpa) (hide hpb)
          | true =>
            obtain ⟨tb, htb⟩ : ∃ t : ByteArray, t.data.toList = textL kb nb sb.data.toList := ⟨⟨(textL kb nb sb.data.toList).toArray⟩, by simp⟩
            cases hp : parseL s.data.toList with
            | none => exact back_N_bad_ok ka na kb nb sa sb s w he la lb ls da db ds la' lb' (hide hp) (hide hpa) (hide hpb) tb (hide htb)
            | some t =>
              obtain ⟨k, n, r⟩ := t
              obtain ⟨q1, q2⟩ := parseL_back hp
              obtain ⟨r', rfl⟩ : ∃ r' : ByteArray, r'.data.toList = r := ⟨⟨r.toArray⟩, by simp⟩
              exact back_S_bad_ok ka na kb nb sa sb s w he la lb ls da db ds la' lb' k n r' (said_len q1) (hide hp) (hide q1) (hide q2.symm) (hide hpa) (hide hpb) tb (hide htb)
        | true =>
          obtain ⟨ta, hta⟩ : ∃ t : ByteArray, t.data.toList = textL ka na sa.data.toList := ⟨⟨(textL ka na sa.data.toList).toArray⟩, by simp⟩
          cases hpb : rightB kb nb sb.data.toList with
          | false =>
            cases hp : parseL s.data.toList with
            | none => exact back_N_ok_bad ka na kb nb sa sb s w he la lb ls da db ds la' lb' (hide hp) (hide hpa) ta (hide hta) (hide hpb)
            | some t =>
              obtain ⟨k, n, r⟩ := t
              obtain ⟨q1, q2⟩ := parseL_back hp
              obtain ⟨r', rfl⟩ : ∃ r' : ByteArray, r'.data.toList = r := ⟨⟨r.toArray⟩, by simp⟩
              exact back_S_ok_bad ka na kb nb sa sb s w he la lb ls da db ds la' lb' k n r' (said_len q1) (hide hp) (hide q1) (hide q2.symm) (hide hpa) ta (hide hta) (hide hpb)
          | true =>
            obtain ⟨tb, htb⟩ : ∃ t : ByteArray, t.data.toList = textL kb nb sb.data.toList := ⟨⟨(textL kb nb sb.data.toList).toArray⟩, by simp⟩
            have lta : ta.size ≤ 1000 := by have h1 := size_list ta; rw [hta] at h1; have h2 := textL_length hpa; omega
            have hq := back_eq hpa hpb hta htb
            have hPA : parseL ta.data.toList = some (ka, na, sa.data.toList) := by rw [hta]; exact parseL_text hpa
            cases hp : parseL s.data.toList with
            | none => exact back_N_ok_ok ka na kb nb sa sb s w he la lb ls da db ds la' lb' (hide hp) (hide hpa) ta (hide hta) (hide hpb) tb (hide htb) lta (hide hPA) hq
            | some t =>
              obtain ⟨k, n, r⟩ := t
              obtain ⟨q1, q2⟩ := parseL_back hp
              obtain ⟨r', rfl⟩ : ∃ r' : ByteArray, r'.data.toList = r := ⟨⟨r.toArray⟩, by simp⟩
              exact back_S_ok_ok ka na kb nb sa sb s w he la lb ls da db ds la' lb' k n r' (said_len q1) (hide hp) (hide q1) (hide q2.symm) (hide hpa) ta (hide hta) (hide hpb) tb (hide htb) lta (hide hPA) hq
      · exact back_long ka na kb nb sa sb s w (Or.inr (Or.inr ⟨da, db, ds⟩))
    · exact back_long ka na kb nb sa sb s w (Or.inr (Or.inl ⟨da, db⟩))
  · exact back_long ka na kb nb sa sb s w (Or.inl da)
end Go.Proofs.YthhfahfgfcicbaaDoor

/- The walk of constablelaw01.ValExact: it answers true, whatever the two values and the text. -/
import Derived.Test.YthhfahfgfcicbaaDoorOwnX
import Derived.Test.YthhfahfgfcicbaaDoorOwnJ
import Derived.Test.YthhfahfgfcicbaaDoorOwnI
namespace Go.Proofs.YthhfahfgfcicbaaDoor
open Go.RowKit
open V

theorem values_v (k n k' n' : Int) (s s' : ByteArray) (w : World) (hs : s.size ≤ 1000) (hs' : s'.size ≤ 1000) :
    Calls Tryd.prog 12 #[.agg #[.int .i64 k, .int .i64 n, .string s], .agg #[.int .i64 k', .int .i64 n', .string s']] w fun e w' => e = .returned (.int .i64 (cmpV (tv k n s) (tv k' n' s'))) ∧ Below w.heap.size w w' ∧ ∀ b o v, w.cell? ⟨b, o, none⟩ = some v → w'.cell? ⟨b, o, none⟩ = some v := by
  refine (refValues_any k n k' n' s s' w hs hs').mono ?_
  rintro e w' ⟨rfl, hb⟩
  exact ⟨rfl, hb, fun b o v h => cell_on hb h⟩

/-- A boxed value stands in a world. -/
structure One (b : Nat) (k n : Int) (s : ByteArray) (W : World) : Prop where
  c0 : W.cell? ⟨b, 0, none⟩ = some (.int .i64 k)
  c1 : W.cell? ⟨b, 1, none⟩ = some (.int .i64 n)
  c2 : W.cell? ⟨b, 2, none⟩ = some (.string s)
theorem One.on {b : Nat} {k n : Int} {s : ByteArray} {W w1 : World} (h : One b k n s W) (hb : Below W.heap.size W w1) : One b k n s w1 :=
  ⟨cell_on hb h.c0, cell_on hb h.c1, cell_on hb h.c2⟩
theorem one_new (W : World) (k n : Int) (s : ByteArray) : One W.heap.size k n s (W.alloc (.cells #[.int .i64 k, .int .i64 n, .string s] 23)) := by
  obtain ⟨x0, x1, x2⟩ := cells_at (heap_alloc_new W (.cells #[.int .i64 k, .int .i64 n, .string s] 23))
  exact ⟨x0, x1, x2⟩
theorem self (W : World) (o : Obj) : Below W.heap.size W (W.alloc o) := (Below.refl _ _).alloc (Nat.le_refl _) _

set_option maxHeartbeats 4000000 in
theorem exact_bad (ka na kb nb : Int) (sa sb s : ByteArray) (w : World) (he : Env w) (la : sa.size ≤ 1000) (lb : sb.size ≤ 1000)
    (da : decide (200 < (sa.size : Int)) = false) (db : decide (200 < (sb.size : Int)) = false) (ds : decide (200 < (s.size : Int)) = false) (la' : sa.size ≤ maxLen)
    (vk vn : Int) (vr : ByteArray) (fI : Int) (ok : Bool) (hfo : fI = 7 ∧ ok = false ∨ fI = 0 ∧ ok = true)
    (HPV : Hid (∀ W, Env W → Calls Tryd.prog 9 #[.string s] W fun e w' => e = .returned (.tuple #[.agg #[.int .i64 vk, .int .i64 vn, .string vr], .int .i64 fI]) ∧ Below W.heap.size W w'))
    (HPR : Hid (∀ W, Calls Tryd.prog 10 #[.string s] W fun e w' => e = .returned (.tuple #[.agg #[.int .i64 vk, .int .i64 vn, .string vr], .bool ok]) ∧ Below W.heap.size W w'))
    (HA : Hid (rightB ka na sa.data.toList = false)) :
    Calls Tryd.prog 3 #[.agg #[.int .i64 ka, .int .i64 na, .string sa], .agg #[.int .i64 kb, .int .i64 nb, .string sb], .string s] w fun e w' => e = .returned (.bool true) ∧ Below w.heap.size w w' := by
  rcases hfo with ⟨rfl, rfl⟩ | ⟨rfl, rfl⟩
  · have hc : chk (rightB ka na sa.data.toList) = 1 := by rw [unhide HA]; rfl
    have HC := hide hc
    clear hc
    go_enter Tryd.func3, Tryd.ntmps3
    go_wp2_with fail
    have hT := two_new w ka na kb nb sa sb
    have hW : Below w.heap.size w ((w.alloc (.cells #[.int .i64 ka, .int .i64 na, .string sa] 23)).alloc (.cells #[.int .i64 kb, .int .i64 nb, .string sb] 23)) := ((Below.refl _ _).alloc (Nat.le_refl _) _).alloc (by simp) _
    generalize ((w.alloc (.cells #[.int .i64 ka, .int .i64 na, .string sa] 23)).alloc (.cells #[.int .i64 kb, .int .i64 nb, .string sb] 23)) = W at hT hW ⊢
    refine (text_bad _ _ _ _ la' (unhide HA)).mono ?_
    rintro e w1 ⟨rfl, k1⟩
    have hw1 := bt hW k1
    have hT1 := hT.on k1
    clear hT
    go_wp2_with fail
    refine (unhide HPV w1 (he.on hw1)).mono ?_
    rintro e w2 ⟨rfl, k2⟩
    have hw2 := bt hw1 k2
    have hT2 := hT1.on k2
    clear hT1
    go_wp2_with fail
    have hO := one_new w2 vk vn vr
    have hX := bt hw2 (self w2 (.cells #[.int .i64 vk, .int .i64 vn, .string vr] 23))
    have hTX := hT2.on (self w2 (.cells #[.int .i64 vk, .int .i64 vn, .string vr] 23))
    clear hT2
    generalize (w2.alloc (.cells #[.int .i64 vk, .int .i64 vn, .string vr] 23)) = X at hO hX hTX ⊢
    generalize w2.heap.size = bv at hO ⊢
    refine (unhide HPR X).mono ?_
    rintro e w3 ⟨rfl, k3⟩
    have hw3 := bt hX k3
    have hT3 := hTX.on k3
    have hO3 := hO.on k3
    clear hTX hO
    go_wp2_with fail
    have hP := one_new w3 vk vn vr
    have hY := bt hw3 (self w3 (.cells #[.int .i64 vk, .int .i64 vn, .string vr] 23))
    have hTY := hT3.on (self w3 (.cells #[.int .i64 vk, .int .i64 vn, .string vr] 23))
    have hOY := hO3.on (self w3 (.cells #[.int .i64 vk, .int .i64 vn, .string vr] 23))
    clear hT3 hO3
    generalize (w3.alloc (.cells #[.int .i64 vk, .int .i64 vn, .string vr] 23)) = Y at hP hY hTY hOY ⊢
    generalize w3.heap.size = bw at hP ⊢
    obtain ⟨a0, a1, a2, b0, b1, b2, lt0, lt⟩ := hTY
    obtain ⟨v0, v1, v2⟩ := hOY
    obtain ⟨p0, p1, p2⟩ := hP
    go_region_held3 (fun w' => w'.cell? ⟨w.heap.size, 0, none⟩ = some (.int .i64 ka) ∧ w'.cell? ⟨w.heap.size, 1, none⟩ = some (.int .i64 na) ∧ w'.cell? ⟨w.heap.size, 2, none⟩ = some (.string sa) ∧ w'.cell? ⟨w.heap.size + 1, 0, none⟩ = some (.int .i64 kb) ∧ w'.cell? ⟨w.heap.size + 1, 1, none⟩ = some (.int .i64 nb) ∧ w'.cell? ⟨w.heap.size + 1, 2, none⟩ = some (.string sb) ∧ w'.cell? ⟨bv, 0, none⟩ = some (.int .i64 vk) ∧ w'.cell? ⟨bv, 1, none⟩ = some (.int .i64 vn) ∧ w'.cell? ⟨bv, 2, none⟩ = some (.string vr) ∧ w'.cell? ⟨bw, 0, none⟩ = some (.int .i64 vk) ∧ w'.cell? ⟨bw, 1, none⟩ = some (.int .i64 vn) ∧ w'.cell? ⟨bw, 2, none⟩ = some (.string vr)) (go_keep) (first | (go_at_call 11; refine (compare_v _ _ _ _ _ _ _).mono ?_; rintro e w' ⟨rfl, hb, hk⟩) | (go_at_call 12; refine (values_v _ _ _ _ _ _ _ la lb).mono ?_; rintro e w' ⟨rfl, hb, hk⟩))
    rename_i wx hbx hkx hS
    have hw' : Below w.heap.size w w' := bt (bt hY.drew hbx) hb
    clear a0 a1 a2 b0 b1 b2 v0 v1 v2 p0 p1 p2 hkx hk lt0 lt
    obtain ⟨a0, a1, a2, b0, b1, b2, v0, v1, v2, p0, p1, p2⟩ := hS
    go_wp2_with (go_at_call 13; refine (refValue_any _ _ _ _ la).mono ?_; rintro e w5 ⟨rfl, k5⟩; rw [unhide HA]; refine Hid.out ?_)
    have hw5 := bt hw' k5
    have a0 := cell_on k5 a0
    have a1 := cell_on k5 a1
    have a2 := cell_on k5 a2
    refine Lib.hid ?_
    go_wp2_with (go_at_call 14; refine (check_any _ _ _ _ la').mono ?_; rintro e w6 ⟨rfl, k6⟩; rw [unhide HC]; refine Hid.out ?_)
    have hw6 := bt hw5 k6
    refine Lib.hid ?_
    go_wp2_with (go_at_call 15; refine (wakes_any _ (he.on hw6)).mono ?_; rintro e w7 ⟨rfl, k7⟩)
    go_ret
    exact ⟨rfl, bt hw6 k7⟩
  · have hc : chk (rightB ka na sa.data.toList) = 1 := by rw [unhide HA]; rfl
    have HC := hide hc
    clear hc
    go_enter Tryd.func3, Tryd.ntmps3
    go_wp2_with fail
    have hT := two_new w ka na kb nb sa sb
    have hW : Below w.heap.size w ((w.alloc (.cells #[.int .i64 ka, .int .i64 na, .string sa] 23)).alloc (.cells #[.int .i64 kb, .int .i64 nb, .string sb] 23)) := ((Below.refl _ _).alloc (Nat.le_refl _) _).alloc (by simp) _
    generalize ((w.alloc (.cells #[.int .i64 ka, .int .i64 na, .string sa] 23)).alloc (.cells #[.int .i64 kb, .int .i64 nb, .string sb] 23)) = W at hT hW ⊢
    refine (text_bad _ _ _ _ la' (unhide HA)).mono ?_
    rintro e w1 ⟨rfl, k1⟩
    have hw1 := bt hW k1
    have hT1 := hT.on k1
    clear hT
    go_wp2_with fail
    refine (unhide HPV w1 (he.on hw1)).mono ?_
    rintro e w2 ⟨rfl, k2⟩
    have hw2 := bt hw1 k2
    have hT2 := hT1.on k2
    clear hT1
    go_wp2_with fail
    have hO := one_new w2 vk vn vr
    have hX := bt hw2 (self w2 (.cells #[.int .i64 vk, .int .i64 vn, .string vr] 23))
    have hTX := hT2.on (self w2 (.cells #[.int .i64 vk, .int .i64 vn, .string vr] 23))
    clear hT2
    generalize (w2.alloc (.cells #[.int .i64 vk, .int .i64 vn, .string vr] 23)) = X at hO hX hTX ⊢
    generalize w2.heap.size = bv at hO ⊢
    refine (unhide HPR X).mono ?_
    rintro e w3 ⟨rfl, k3⟩
    have hw3 := bt hX k3
    have hT3 := hTX.on k3
    have hO3 := hO.on k3
    clear hTX hO
    go_wp2_with fail
    have hP := one_new w3 vk vn vr
    have hY := bt hw3 (self w3 (.cells #[.int .i64 vk, .int .i64 vn, .string vr] 23))
    have hTY := hT3.on (self w3 (.cells #[.int .i64 vk, .int .i64 vn, .string vr] 23))
    have hOY := hO3.on (self w3 (.cells #[.int .i64 vk, .int .i64 vn, .string vr] 23))
    clear hT3 hO3
    generalize (w3.alloc (.cells #[.int .i64 vk, .int .i64 vn, .string vr] 23)) = Y at hP hY hTY hOY ⊢
    generalize w3.heap.size = bw at hP ⊢
    obtain ⟨a0, a1, a2, b0, b1, b2, lt0, lt⟩ := hTY
    obtain ⟨v0, v1, v2⟩ := hOY
    obtain ⟨p0, p1, p2⟩ := hP
    refine wp_region_held_drew (S := (fun w' => w'.cell? ⟨w.heap.size, 0, none⟩ = some (.int .i64 ka) ∧ w'.cell? ⟨w.heap.size, 1, none⟩ = some (.int .i64 na) ∧ w'.cell? ⟨w.heap.size, 2, none⟩ = some (.string sa) ∧ w'.cell? ⟨w.heap.size + 1, 0, none⟩ = some (.int .i64 kb) ∧ w'.cell? ⟨w.heap.size + 1, 1, none⟩ = some (.int .i64 nb) ∧ w'.cell? ⟨w.heap.size + 1, 2, none⟩ = some (.string sb) ∧ w'.cell? ⟨bv, 0, none⟩ = some (.int .i64 vk) ∧ w'.cell? ⟨bv, 1, none⟩ = some (.int .i64 vn) ∧ w'.cell? ⟨bv, 2, none⟩ = some (.string vr) ∧ w'.cell? ⟨bw, 0, none⟩ = some (.int .i64 vk) ∧ w'.cell? ⟨bw, 1, none⟩ = some (.int .i64 vn) ∧ w'.cell? ⟨bw, 2, none⟩ = some (.string vr))) (by kernel_rfl) (by (try dsimp only); go_keep) (fun hS0 => ?_)
    refine wpAnyH_take (i := 0) (oi := { dst := some 43, op := Op.load 23 (Operand.tmp 3), type := 23, pos := "law.go:26", after := #[], guard := none }) (v := ?_) rfl (by kernel_rfl) (by kernel_rfl) (by kernel_rfl) (fun _ _ _ h => h) (Or.inl ⟨by rfl, ?zy0⟩) (by assumption) ?zr0
    case zy0 => (intro w hSw; (try dsimp only at hSw); go_simp; (try with_reducible rfl))
    try simp only [Act.put, List.setIfInBounds_toArray, List.set_cons_zero, List.set_cons_succ]
    refine wpAnyH_take (i := 1) (oi := { dst := some 44, op := Op.load 23 (Operand.tmp 4), type := 23, pos := "law.go:26", after := #[], guard := none }) (v := ?_) rfl (by kernel_rfl) (by kernel_rfl) (by kernel_rfl) (fun _ _ _ h => h) (Or.inl ⟨by rfl, ?zy1⟩) (by assumption) ?zr1
    case zy1 => (intro w hSw; (try dsimp only at hSw); go_simp; (try with_reducible rfl))
    try simp only [Act.put, List.setIfInBounds_toArray, List.set_cons_zero, List.set_cons_succ]
    refine wpAnyH_take (i := 3) (oi := { dst := some 46, op := Op.load 23 (Operand.tmp 3), type := 23, pos := "law.go:26", after := #[], guard := none }) (v := ?_) rfl (by kernel_rfl) (by kernel_rfl) (by kernel_rfl) (fun _ _ _ h => h) (Or.inl ⟨by rfl, ?zy3⟩) (by assumption) ?zr3
    case zy3 => (intro w hSw; (try dsimp only at hSw); go_simp; (try with_reducible rfl))
    try simp only [Act.put, List.setIfInBounds_toArray, List.set_cons_zero, List.set_cons_succ]
    refine wpAnyH_take (i := 4) (oi := { dst := some 47, op := Op.load 23 (Operand.tmp 4), type := 23, pos := "law.go:26", after := #[], guard := none }) (v := ?_) rfl (by kernel_rfl) (by kernel_rfl) (by kernel_rfl) (fun _ _ _ h => h) (Or.inl ⟨by rfl, ?zy4⟩) (by assumption) ?zr4
    case zy4 => (intro w hSw; (try dsimp only at hSw); go_simp; (try with_reducible rfl))
    try simp only [Act.put, List.setIfInBounds_toArray, List.set_cons_zero, List.set_cons_succ]
    refine wpAnyH_ready (rs := [2]) (by kernel_rfl) (by simp) ?_
    refine AllReadyH.cons (o := { dst := some 45, op := Op.call { callee := Callee.value (Operand.func 11), args := #[Operand.tmp 43, Operand.tmp 44], argTypes := #[23, 23] }, type := 3, pos := "law.go:26", after := #[{ on := 0, ground := Ground.data }, { on := 1, ground := Ground.data }], guard := none }) rfl (fun K hK => ?_) AllReadyH.nil
    go_simp
    refine (compare_v _ _ _ _ _ _ _).mono ?_; rintro e wx ⟨rfl, hbx, hkx⟩
    refine hK.out _ _ (by (try dsimp only); go_keep) (fun hS1 => ?_)
    clear hK K
    try simp only [Act.put, List.setIfInBounds_toArray, List.set_cons_zero, List.set_cons_succ]
    refine wpAnyH_ready (rs := [5]) (by kernel_rfl) (by simp) ?_
    refine AllReadyH.cons (o := { dst := some 48, op := Op.call { callee := Callee.value (Operand.func 12), args := #[Operand.tmp 46, Operand.tmp 47], argTypes := #[23, 23] }, type := 3, pos := "law.go:26", after := #[{ on := 3, ground := Ground.data }, { on := 4, ground := Ground.data }, { on := 2, ground := Ground.chain }], guard := none }) rfl (fun K hK => ?_) AllReadyH.nil
    go_simp
    refine (values_v _ _ _ _ _ _ _ la lb).mono ?_; rintro e w' ⟨rfl, hb, hk⟩
    refine hK.out _ _ (by (try dsimp only); go_keep) (fun hS => ?_)
    clear hK K
    try simp only [Act.put, List.setIfInBounds_toArray, List.set_cons_zero, List.set_cons_succ]
    refine wpAnyH_take (i := 6) (oi := { dst := some 49, op := Op.binOp BinOp.neq 3 (Operand.tmp 45) (Operand.tmp 48) 3, type := 4, pos := "law.go:26", after := #[{ on := 2, ground := Ground.data }, { on := 5, ground := Ground.data }], guard := none }) (v := ?_) rfl (by kernel_rfl) (by kernel_rfl) (by kernel_rfl) (fun _ _ _ h => h) (Or.inl ⟨by rfl, ?zy6⟩) (by assumption) ?zr6
    case zy6 => (intro w hSw; (try dsimp only at hSw); go_simp; (try with_reducible rfl))
    try simp only [Act.put, List.setIfInBounds_toArray, List.set_cons_zero, List.set_cons_succ]
    refine wpAnyH_take (i := 7) (oi := { dst := some 50, op := Op.move (Operand.tmp 49), type := 4, pos := "law.go:26", after := #[{ on := 6, ground := Ground.data }, { on := 5, ground := Ground.chain }], guard := none }) (v := ?_) rfl (by kernel_rfl) (by kernel_rfl) (by kernel_rfl) (fun _ _ _ h => h) (Or.inl ⟨by rfl, ?zy7⟩) (by assumption) ?zr7
    case zy7 => (intro w hSw; (try dsimp only at hSw); go_simp; (try with_reducible rfl))
    try simp only [Act.put, List.setIfInBounds_toArray, List.set_cons_zero, List.set_cons_succ]
    refine wpAnyH_take (i := 8) (oi := { dst := some 51, op := Op.move (Operand.tmp 12), type := 4, pos := "law.go:26", after := #[{ on := 7, ground := Ground.guard }], guard := some (7, false) }) (v := ?_) rfl (by kernel_rfl) (by kernel_rfl) (by kernel_rfl) (fun _ _ _ h => h) (Or.inl ⟨by rfl, ?zy8⟩) (by assumption) ?zr8
    case zy8 => (intro w hSw; (try dsimp only at hSw); go_simp; (try with_reducible rfl))
    try simp only [Act.put, List.setIfInBounds_toArray, List.set_cons_zero, List.set_cons_succ]
    refine wpAnyH_take (i := 9) (oi := { dst := some 52, op := Op.move (Operand.tmp 10), type := 24, pos := "law.go:26", after := #[{ on := 7, ground := Ground.guard }], guard := some (7, false) }) (v := ?_) rfl (by kernel_rfl) (by kernel_rfl) (by kernel_rfl) (fun _ _ _ h => h) (Or.inl ⟨by rfl, ?zy9⟩) (by assumption) ?zr9
    case zy9 => (intro w hSw; (try dsimp only at hSw); go_simp; (try with_reducible rfl))
    try simp only [Act.put, List.setIfInBounds_toArray, List.set_cons_zero, List.set_cons_succ]
    refine wpAnyH_take (i := 10) (oi := { dst := some 53, op := Op.binOp BinOp.eql 24 (Operand.tmp 52) (Operand.const (Value.int IntKind.i64 0)) 24, type := 4, pos := "law.go:26", after := #[{ on := 9, ground := Ground.data }, { on := 7, ground := Ground.guard }], guard := some (7, false) }) (v := ?_) rfl (by kernel_rfl) (by kernel_rfl) (by kernel_rfl) (fun _ _ _ h => h) (Or.inl ⟨by rfl, ?zy10⟩) (by assumption) ?zr10
    case zy10 => (intro w hSw; (try dsimp only at hSw); go_simp; (try with_reducible rfl))
    try simp only [Act.put, List.setIfInBounds_toArray, List.set_cons_zero, List.set_cons_succ]
    refine wpAnyH_take (i := 11) (oi := { dst := some 54, op := Op.binOp BinOp.neq 4 (Operand.tmp 51) (Operand.tmp 53) 4, type := 4, pos := "law.go:26", after := #[{ on := 8, ground := Ground.data }, { on := 10, ground := Ground.data }, { on := 7, ground := Ground.guard }], guard := some (7, false) }) (v := ?_) rfl (by kernel_rfl) (by kernel_rfl) (by kernel_rfl) (fun _ _ _ h => h) (Or.inl ⟨by rfl, ?zy11⟩) (by assumption) ?zr11
    case zy11 => (intro w hSw; (try dsimp only at hSw); go_simp; (try with_reducible rfl))
    try simp only [Act.put, List.setIfInBounds_toArray, List.set_cons_zero, List.set_cons_succ]
    refine wpAnyH_take (i := 12) (oi := { dst := some 55, op := Op.pick (Operand.tmp 50) (Operand.const (Value.bool true)) (Operand.tmp 54), type := 4, pos := "law.go:26", after := #[{ on := 7, ground := Ground.data }, { on := 11, ground := Ground.data }], guard := none }) (v := ?_) rfl (by kernel_rfl) (by kernel_rfl) (by kernel_rfl) (fun _ _ _ h => h) (Or.inl ⟨by rfl, ?zy12⟩) (by assumption) ?zr12
    case zy12 => (intro w hSw; (try dsimp only at hSw); go_simp; (try with_reducible rfl))
    try simp only [Act.put, List.setIfInBounds_toArray, List.set_cons_zero, List.set_cons_succ]
    refine wpAnyH_take (i := 13) (oi := { dst := some 56, op := Op.move (Operand.tmp 55), type := 4, pos := "law.go:26", after := #[{ on := 12, ground := Ground.data }, { on := 7, ground := Ground.chain }], guard := none }) (v := ?_) rfl (by kernel_rfl) (by kernel_rfl) (by kernel_rfl) (fun _ _ _ h => h) (Or.inl ⟨by rfl, ?zy13⟩) (by assumption) ?zr13
    case zy13 => (intro w hSw; (try dsimp only at hSw); go_simp; (try with_reducible rfl))
    try simp only [Act.put, List.setIfInBounds_toArray, List.set_cons_zero, List.set_cons_succ]
    refine wpAnyH_take (i := 14) (oi := { dst := some 57, op := Op.move (Operand.tmp 12), type := 4, pos := "law.go:26", after := #[{ on := 13, ground := Ground.guard }], guard := some (13, false) }) (v := ?_) rfl (by kernel_rfl) (by kernel_rfl) (by kernel_rfl) (fun _ _ _ h => h) (Or.inl ⟨by rfl, ?zy14⟩) (by assumption) ?zr14
    case zy14 => (intro w hSw; (try dsimp only at hSw); go_simp; (try with_reducible rfl))
    try simp only [Act.put, List.setIfInBounds_toArray, List.set_cons_zero, List.set_cons_succ]
    refine wpAnyH_take (i := 15) (oi := { dst := some 58, op := Op.unOp UnOp.not 4 (Operand.tmp 57), type := 4, pos := "law.go:26", after := #[{ on := 14, ground := Ground.data }, { on := 13, ground := Ground.guard }], guard := some (13, false) }) (v := ?_) rfl (by kernel_rfl) (by kernel_rfl) (by kernel_rfl) (fun _ _ _ h => h) (Or.inl ⟨by rfl, ?zy15⟩) (by assumption) ?zr15
    case zy15 => (intro w hSw; (try dsimp only at hSw); go_simp; (try with_reducible rfl))
    try simp only [Act.put, List.setIfInBounds_toArray, List.set_cons_zero, List.set_cons_succ]
    refine wpAnyH_take (i := 16) (oi := { dst := some 59, op := Op.move (Operand.tmp 58), type := 4, pos := "law.go:26", after := #[{ on := 15, ground := Ground.data }, { on := 13, ground := Ground.chain }, { on := 13, ground := Ground.guard }], guard := some (13, false) }) (v := ?_) rfl (by kernel_rfl) (by kernel_rfl) (by kernel_rfl) (fun _ _ _ h => h) (Or.inl ⟨by rfl, ?zy16⟩) (by assumption) ?zr16
    case zy16 => (intro w hSw; (try dsimp only at hSw); go_simp; (try with_reducible rfl))
    try simp only [Act.put, List.setIfInBounds_toArray, List.set_cons_zero, List.set_cons_succ]
    refine wpAnyH_take (i := 17) (oi := { dst := some 60, op := Op.move (Operand.tmp 10), type := 24, pos := "law.go:26", after := #[{ on := 16, ground := Ground.guard }], guard := some (16, true) }) rfl (by kernel_rfl) (by kernel_rfl) (by kernel_rfl) (fun _ _ _ h => h) (Or.inr ⟨by rfl, rfl⟩) (by assumption) ?_
    try simp only [Act.put, List.setIfInBounds_toArray, List.set_cons_zero, List.set_cons_succ]
    refine wpAnyH_take (i := 18) (oi := { dst := some 61, op := Op.binOp BinOp.neq 24 (Operand.tmp 60) (Operand.const (Value.int IntKind.i64 7)) 24, type := 4, pos := "law.go:26", after := #[{ on := 17, ground := Ground.data }, { on := 16, ground := Ground.guard }], guard := some (16, true) }) rfl (by kernel_rfl) (by kernel_rfl) (by kernel_rfl) (fun _ _ _ h => h) (Or.inr ⟨by rfl, rfl⟩) (by assumption) ?_
    try simp only [Act.put, List.setIfInBounds_toArray, List.set_cons_zero, List.set_cons_succ]
    refine wpAnyH_take (i := 19) (oi := { dst := some 62, op := Op.pick (Operand.tmp 59) (Operand.tmp 61) (Operand.const (Value.bool false)), type := 4, pos := "law.go:26", after := #[{ on := 16, ground := Ground.data }, { on := 18, ground := Ground.data }, { on := 13, ground := Ground.guard }], guard := some (13, false) }) (v := ?_) rfl (by kernel_rfl) (by kernel_rfl) (by kernel_rfl) (fun _ _ _ h => h) (Or.inl ⟨by rfl, ?zy19⟩) (by assumption) ?zr19
    case zy19 => (intro w hSw; (try dsimp only at hSw); go_simp; (try with_reducible rfl))
    try simp only [Act.put, List.setIfInBounds_toArray, List.set_cons_zero, List.set_cons_succ]
    refine wpAnyH_take (i := 20) (oi := { dst := some 63, op := Op.pick (Operand.tmp 56) (Operand.const (Value.bool true)) (Operand.tmp 62), type := 4, pos := "law.go:26", after := #[{ on := 13, ground := Ground.data }, { on := 19, ground := Ground.data }], guard := none }) (v := ?_) rfl (by kernel_rfl) (by kernel_rfl) (by kernel_rfl) (fun _ _ _ h => h) (Or.inl ⟨by rfl, ?zy20⟩) (by assumption) ?zr20
    case zy20 => (intro w hSw; (try dsimp only at hSw); go_simp; (try with_reducible rfl))
    try simp only [Act.put, List.setIfInBounds_toArray, List.set_cons_zero, List.set_cons_succ]
    refine wpAnyH_take (i := 21) (oi := { dst := some 64, op := Op.move (Operand.tmp 63), type := 4, pos := "law.go:26", after := #[{ on := 20, ground := Ground.data }, { on := 16, ground := Ground.chain }], guard := none }) (v := ?_) rfl (by kernel_rfl) (by kernel_rfl) (by kernel_rfl) (fun _ _ _ h => h) (Or.inl ⟨by rfl, ?zy21⟩) (by assumption) ?zr21
    case zy21 => (intro w hSw; (try dsimp only at hSw); go_simp; (try with_reducible rfl))
    try simp only [Act.put, List.setIfInBounds_toArray, List.set_cons_zero, List.set_cons_succ]
    refine wpAnyH_take (i := 22) (oi := { dst := some 65, op := Op.load 23 (Operand.tmp 9), type := 23, pos := "law.go:26", after := #[{ on := 21, ground := Ground.guard }], guard := some (21, false) }) (v := ?_) rfl (by kernel_rfl) (by kernel_rfl) (by kernel_rfl) (fun _ _ _ h => h) (Or.inl ⟨by rfl, ?zy22⟩) (by assumption) ?zr22
    case zy22 => (intro w hSw; (try dsimp only at hSw); go_simp; (try with_reducible rfl))
    try simp only [Act.put, List.setIfInBounds_toArray, List.set_cons_zero, List.set_cons_succ]
    refine wpAnyH_take (i := 23) (oi := { dst := some 66, op := Op.load 23 (Operand.tmp 11), type := 23, pos := "law.go:26", after := #[{ on := 21, ground := Ground.guard }], guard := some (21, false) }) (v := ?_) rfl (by kernel_rfl) (by kernel_rfl) (by kernel_rfl) (fun _ _ _ h => h) (Or.inl ⟨by rfl, ?zy23⟩) (by assumption) ?zr23
    case zy23 => (intro w hSw; (try dsimp only at hSw); go_simp; (try with_reducible rfl))
    try simp only [Act.put, List.setIfInBounds_toArray, List.set_cons_zero, List.set_cons_succ]
    refine wpAnyH_take (i := 24) (oi := { dst := some 67, op := Op.binOp BinOp.neq 23 (Operand.tmp 65) (Operand.tmp 66) 23, type := 4, pos := "law.go:26", after := #[{ on := 22, ground := Ground.data }, { on := 23, ground := Ground.data }, { on := 21, ground := Ground.guard }], guard := some (21, false) }) (v := ?_) rfl (by kernel_rfl) (by kernel_rfl) (by kernel_rfl) (fun _ _ _ h => h) (Or.inl ⟨by rfl, ?zy24⟩) (by assumption) ?zr24
    case zy24 => (intro w hSw; (try dsimp only at hSw); go_simp; (try with_reducible rfl))
    try simp only [Act.put, List.setIfInBounds_toArray, List.set_cons_zero, List.set_cons_succ]
    refine wpAnyH_take (i := 25) (oi := { dst := some 68, op := Op.pick (Operand.tmp 64) (Operand.const (Value.bool true)) (Operand.tmp 67), type := 4, pos := "law.go:26", after := #[{ on := 21, ground := Ground.data }, { on := 24, ground := Ground.data }], guard := none }) (v := ?_) rfl (by kernel_rfl) (by kernel_rfl) (by kernel_rfl) (fun _ _ _ h => h) (Or.inl ⟨by rfl, ?zy25⟩) (by assumption) ?zr25
    case zy25 => (intro w hSw; (try dsimp only at hSw); go_simp; (try with_reducible rfl))
    try simp only [Act.put, List.setIfInBounds_toArray, List.set_cons_zero, List.set_cons_succ]
    refine wpAnyH_done (by kernel_rfl) ?_ _
    have hw' : Below w.heap.size w w' := bt (bt hY.drew hbx) hb
    clear a0 a1 a2 b0 b1 b2 v0 v1 v2 p0 p1 p2 hkx hk lt0 lt
    obtain ⟨a0, a1, a2, b0, b1, b2, v0, v1, v2, p0, p1, p2⟩ := hS
    go_wp2_with (go_at_call 13; refine (refValue_any _ _ _ _ la).mono ?_; rintro e w5 ⟨rfl, k5⟩; rw [unhide HA]; refine Hid.out ?_)
    have hw5 := bt hw' k5
    have a0 := cell_on k5 a0
    have a1 := cell_on k5 a1
    have a2 := cell_on k5 a2
    refine Lib.hid ?_
    go_wp2_with (go_at_call 14; refine (check_any _ _ _ _ la').mono ?_; rintro e w6 ⟨rfl, k6⟩; rw [unhide HC]; refine Hid.out ?_)
    have hw6 := bt hw5 k6
    refine Lib.hid ?_
    go_wp2_with (go_at_call 15; refine (wakes_any _ (he.on hw6)).mono ?_; rintro e w7 ⟨rfl, k7⟩)
    go_ret
    exact ⟨rfl, bt hw6 k7⟩

set_option maxHeartbeats 4000000 in
theorem exact_ok (ka na kb nb : Int) (sa sb s : ByteArray) (w : World) (he : Env w) (la : sa.size ≤ 1000) (lb : sb.size ≤ 1000)
    (da : decide (200 < (sa.size : Int)) = false) (db : decide (200 < (sb.size : Int)) = false) (ds : decide (200 < (s.size : Int)) = false) (la' : sa.size ≤ maxLen)
    (vk vn : Int) (vr : ByteArray) (fI : Int) (ok : Bool) (hfo : fI = 7 ∧ ok = false ∨ fI = 0 ∧ ok = true)
    (HPV : Hid (∀ W, Env W → Calls Tryd.prog 9 #[.string s] W fun e w' => e = .returned (.tuple #[.agg #[.int .i64 vk, .int .i64 vn, .string vr], .int .i64 fI]) ∧ Below W.heap.size W w'))
    (HPR : Hid (∀ W, Calls Tryd.prog 10 #[.string s] W fun e w' => e = .returned (.tuple #[.agg #[.int .i64 vk, .int .i64 vn, .string vr], .bool ok]) ∧ Below W.heap.size W w'))
    (HA : Hid (rightB ka na sa.data.toList = true)) (ta : ByteArray) (HTA : Hid (ta.data.toList = textL ka na sa.data.toList)) :
    Calls Tryd.prog 3 #[.agg #[.int .i64 ka, .int .i64 na, .string sa], .agg #[.int .i64 kb, .int .i64 nb, .string sb], .string s] w fun e w' => e = .returned (.bool true) ∧ Below w.heap.size w w' := by
  rcases hfo with ⟨rfl, rfl⟩ | ⟨rfl, rfl⟩
  · have hc : chk (rightB ka na sa.data.toList) = 0 := by rw [unhide HA]; rfl
    have HC := hide hc
    clear hc
    go_enter Tryd.func3, Tryd.ntmps3
    go_wp2_with fail
    have hT := two_new w ka na kb nb sa sb
    have hW : Below w.heap.size w ((w.alloc (.cells #[.int .i64 ka, .int .i64 na, .string sa] 23)).alloc (.cells #[.int .i64 kb, .int .i64 nb, .string sb] 23)) := ((Below.refl _ _).alloc (Nat.le_refl _) _).alloc (by simp) _
    generalize ((w.alloc (.cells #[.int .i64 ka, .int .i64 na, .string sa] 23)).alloc (.cells #[.int .i64 kb, .int .i64 nb, .string sb] 23)) = W at hT hW ⊢
    refine (text_str _ _ _ ta _ la (he.on hW) (unhide HA) (unhide HTA)).mono ?_
    rintro e w1 ⟨rfl, k1⟩
    have hw1 := bt hW k1
    have hT1 := hT.on k1
    clear hT
    go_wp2_with fail
    refine (unhide HPV w1 (he.on hw1)).mono ?_
    rintro e w2 ⟨rfl, k2⟩
    have hw2 := bt hw1 k2
    have hT2 := hT1.on k2
    clear hT1
    go_wp2_with fail
    have hO := one_new w2 vk vn vr
    have hX := bt hw2 (self w2 (.cells #[.int .i64 vk, .int .i64 vn, .string vr] 23))
    have hTX := hT2.on (self w2 (.cells #[.int .i64 vk, .int .i64 vn, .string vr] 23))
    clear hT2
    generalize (w2.alloc (.cells #[.int .i64 vk, .int .i64 vn, .string vr] 23)) = X at hO hX hTX ⊢
    generalize w2.heap.size = bv at hO ⊢
    refine (unhide HPR X).mono ?_
    rintro e w3 ⟨rfl, k3⟩
    have hw3 := bt hX k3
    have hT3 := hTX.on k3
    have hO3 := hO.on k3
    clear hTX hO
    go_wp2_with fail
    have hP := one_new w3 vk vn vr
    have hY := bt hw3 (self w3 (.cells #[.int .i64 vk, .int .i64 vn, .string vr] 23))
    have hTY := hT3.on (self w3 (.cells #[.int .i64 vk, .int .i64 vn, .string vr] 23))
    have hOY := hO3.on (self w3 (.cells #[.int .i64 vk, .int .i64 vn, .string vr] 23))
    clear hT3 hO3
    generalize (w3.alloc (.cells #[.int .i64 vk, .int .i64 vn, .string vr] 23)) = Y at hP hY hTY hOY ⊢
    generalize w3.heap.size = bw at hP ⊢
    obtain ⟨a0, a1, a2, b0, b1, b2, lt0, lt⟩ := hTY
    obtain ⟨v0, v1, v2⟩ := hOY
    obtain ⟨p0, p1, p2⟩ := hP
    go_region_held3 (fun w' => w'.cell? ⟨w.heap.size, 0, none⟩ = some (.int .i64 ka) ∧ w'.cell? ⟨w.heap.size, 1, none⟩ = some (.int .i64 na) ∧ w'.cell? ⟨w.heap.size, 2, none⟩ = some (.string sa) ∧ w'.cell? ⟨w.heap.size + 1, 0, none⟩ = some (.int .i64 kb) ∧ w'.cell? ⟨w.heap.size + 1, 1, none⟩ = some (.int .i64 nb) ∧ w'.cell? ⟨w.heap.size + 1, 2, none⟩ = some (.string sb) ∧ w'.cell? ⟨bv, 0, none⟩ = some (.int .i64 vk) ∧ w'.cell? ⟨bv, 1, none⟩ = some (.int .i64 vn) ∧ w'.cell? ⟨bv, 2, none⟩ = some (.string vr) ∧ w'.cell? ⟨bw, 0, none⟩ = some (.int .i64 vk) ∧ w'.cell? ⟨bw, 1, none⟩ = some (.int .i64 vn) ∧ w'.cell? ⟨bw, 2, none⟩ = some (.string vr)) (go_keep) (first | (go_at_call 11; refine (compare_v _ _ _ _ _ _ _).mono ?_; rintro e w' ⟨rfl, hb, hk⟩) | (go_at_call 12; refine (values_v _ _ _ _ _ _ _ la lb).mono ?_; rintro e w' ⟨rfl, hb, hk⟩))
    rename_i wx hbx hkx hS
    have hw' : Below w.heap.size w w' := bt (bt hY.drew hbx) hb
    clear a0 a1 a2 b0 b1 b2 v0 v1 v2 p0 p1 p2 hkx hk lt0 lt
    obtain ⟨a0, a1, a2, b0, b1, b2, v0, v1, v2, p0, p1, p2⟩ := hS
    go_wp2_with (go_at_call 13; refine (refValue_any _ _ _ _ la).mono ?_; rintro e w5 ⟨rfl, k5⟩; rw [unhide HA]; refine Hid.out ?_)
    have hw5 := bt hw' k5
    have a0 := cell_on k5 a0
    have a1 := cell_on k5 a1
    have a2 := cell_on k5 a2
    refine Lib.hid ?_
    go_wp2_with (go_at_call 14; refine (check_any _ _ _ _ la').mono ?_; rintro e w6 ⟨rfl, k6⟩; rw [unhide HC]; refine Hid.out ?_)
    have hw6 := bt hw5 k6
    have a0 := cell_on k6 a0
    have a1 := cell_on k6 a1
    have a2 := cell_on k6 a2
    refine Lib.hid ?_
    go_wp2_with (go_at_call 16; refine (refText_any _ _ _ ta _ (unhide HA) (unhide HTA) la).mono ?_; rintro e w7 ⟨rfl, k7⟩; refine Hid.out ?_)
    have hw7 := bt hw6 k7
    refine Lib.hid ?_
    go_wp2_with (go_at_call 15; refine (wakes_any _ (he.on hw7)).mono ?_; rintro e w8 ⟨rfl, k8⟩)
    go_ret
    exact ⟨rfl, bt hw7 k8⟩
  · have hc : chk (rightB ka na sa.data.toList) = 0 := by rw [unhide HA]; rfl
    have HC := hide hc
    clear hc
    go_enter Tryd.func3, Tryd.ntmps3
    go_wp2_with fail
    have hT := two_new w ka na kb nb sa sb
    have hW : Below w.heap.size w ((w.alloc (.cells #[.int .i64 ka, .int .i64 na, .string sa] 23)).alloc (.cells #[.int .i64 kb, .int .i64 nb, .string sb] 23)) := ((Below.refl _ _).alloc (Nat.le_refl _) _).alloc (by simp) _
    generalize ((w.alloc (.cells #[.int .i64 ka, .int .i64 na, .string sa] 23)).alloc (.cells #[.int .i64 kb, .int .i64 nb, .string sb] 23)) = W at hT hW ⊢
    refine (text_str _ _ _ ta _ la (he.on hW) (unhide HA) (unhide HTA)).mono ?_
    rintro e w1 ⟨rfl, k1⟩
    have hw1 := bt hW k1
    have hT1 := hT.on k1
    clear hT
    go_wp2_with fail
    refine (unhide HPV w1 (he.on hw1)).mono ?_
    rintro e w2 ⟨rfl, k2⟩
    have hw2 := bt hw1 k2
    have hT2 := hT1.on k2
    clear hT1
    go_wp2_with fail
    have hO := one_new w2 vk vn vr
    have hX := bt hw2 (self w2 (.cells #[.int .i64 vk, .int .i64 vn, .string vr] 23))
    have hTX := hT2.on (self w2 (.cells #[.int .i64 vk, .int .i64 vn, .string vr] 23))
    clear hT2
    generalize (w2.alloc (.cells #[.int .i64 vk, .int .i64 vn, .string vr] 23)) = X at hO hX hTX ⊢
    generalize w2.heap.size = bv at hO ⊢
    refine (unhide HPR X).mono ?_
    rintro e w3 ⟨rfl, k3⟩
    have hw3 := bt hX k3
    have hT3 := hTX.on k3
    have hO3 := hO.on k3
    clear hTX hO
    go_wp2_with fail
    have hP := one_new w3 vk vn vr
    have hY := bt hw3 (self w3 (.cells #[.int .i64 vk, .int .i64 vn, .string vr] 23))
    have hTY := hT3.on (self w3 (.cells #[.int .i64 vk, .int .i64 vn, .string vr] 23))
    have hOY := hO3.on (self w3 (.cells #[.int .i64 vk, .int .i64 vn, .string vr] 23))
    clear hT3 hO3
    generalize (w3.alloc (.cells #[.int .i64 vk, .int .i64 vn, .string vr] 23)) = Y at hP hY hTY hOY ⊢
    generalize w3.heap.size = bw at hP ⊢
    obtain ⟨a0, a1, a2, b0, b1, b2, lt0, lt⟩ := hTY
    obtain ⟨v0, v1, v2⟩ := hOY
    obtain ⟨p0, p1, p2⟩ := hP
    refine wp_region_held_drew (S := (fun w' => w'.cell? ⟨w.heap.size, 0, none⟩ = some (.int .i64 ka) ∧ w'.cell? ⟨w.heap.size, 1, none⟩ = some (.int .i64 na) ∧ w'.cell? ⟨w.heap.size, 2, none⟩ = some (.string sa) ∧ w'.cell? ⟨w.heap.size + 1, 0, none⟩ = some (.int .i64 kb) ∧ w'.cell? ⟨w.heap.size + 1, 1, none⟩ = some (.int .i64 nb) ∧ w'.cell? ⟨w.heap.size + 1, 2, none⟩ = some (.string sb) ∧ w'.cell? ⟨bv, 0, none⟩ = some (.int .i64 vk) ∧ w'.cell? ⟨bv, 1, none⟩ = some (.int .i64 vn) ∧ w'.cell? ⟨bv, 2, none⟩ = some (.string vr) ∧ w'.cell? ⟨bw, 0, none⟩ = some (.int .i64 vk) ∧ w'.cell? ⟨bw, 1, none⟩ = some (.int .i64 vn) ∧ w'.cell? ⟨bw, 2, none⟩ = some (.string vr))) (by kernel_rfl) (by (try dsimp only); go_keep) (fun hS0 => ?_)
    refine wpAnyH_take (i := 0) (oi := { dst := some 43, op := Op.load 23 (Operand.tmp 3), type := 23, pos := "law.go:26", after := #[], guard := none }) (v := ?_) rfl (by kernel_rfl) (by kernel_rfl) (by kernel_rfl) (fun _ _ _ h => h) (Or.inl ⟨by rfl, ?zy0⟩) (by assumption) ?zr0
    case zy0 => (intro w hSw; (try dsimp only at hSw); go_simp; (try with_reducible rfl))
    try simp only [Act.put, List.setIfInBounds_toArray, List.set_cons_zero, List.set_cons_succ]
    refine wpAnyH_take (i := 1) (oi := { dst := some 44, op := Op.load 23 (Operand.tmp 4), type := 23, pos := "law.go:26", after := #[], guard := none }) (v := ?_) rfl (by kernel_rfl) (by kernel_rfl) (by kernel_rfl) (fun _ _ _ h => h) (Or.inl ⟨by rfl, ?zy1⟩) (by assumption) ?zr1
    case zy1 => (intro w hSw; (try dsimp only at hSw); go_simp; (try with_reducible rfl))
    try simp only [Act.put, List.setIfInBounds_toArray, List.set_cons_zero, List.set_cons_succ]
    refine wpAnyH_take (i := 3) (oi := { dst := some 46, op := Op.load 23 (Operand.tmp 3), type := 23, pos := "law.go:26", after := #[], guard := none }) (v := ?_) rfl (by kernel_rfl) (by kernel_rfl) (by kernel_rfl) (fun _ _ _ h => h) (Or.inl ⟨by rfl, ?zy3⟩) (by assumption) ?zr3
    case zy3 => (intro w hSw; (try dsimp only at hSw); go_simp; (try with_reducible rfl))
    try simp only [Act.put, List.setIfInBounds_toArray, List.set_cons_zero, List.set_cons_succ]
    refine wpAnyH_take (i := 4) (oi := { dst := some 47, op := Op.load 23 (Operand.tmp 4), type := 23, pos := "law.go:26", after := #[], guard := none }) (v := ?_) rfl (by kernel_rfl) (by kernel_rfl) (by kernel_rfl) (fun _ _ _ h => h) (Or.inl ⟨by rfl, ?zy4⟩) (by assumption) ?zr4
    case zy4 => (intro w hSw; (try dsimp only at hSw); go_simp; (try with_reducible rfl))
    try simp only [Act.put, List.setIfInBounds_toArray, List.set_cons_zero, List.set_cons_succ]
    refine wpAnyH_ready (rs := [2]) (by kernel_rfl) (by simp) ?_
    refine AllReadyH.cons (o := { dst := some 45, op := Op.call { callee := Callee.value (Operand.func 11), args := #[Operand.tmp 43, Operand.tmp 44], argTypes := #[23, 23] }, type := 3, pos := "law.go:26", after := #[{ on := 0, ground := Ground.data }, { on := 1, ground := Ground.data }], guard := none }) rfl (fun K hK => ?_) AllReadyH.nil
    go_simp
    refine (compare_v _ _ _ _ _ _ _).mono ?_; rintro e wx ⟨rfl, hbx, hkx⟩
    refine hK.out _ _ (by (try dsimp only); go_keep) (fun hS1 => ?_)
    clear hK K
    try simp only [Act.put, List.setIfInBounds_toArray, List.set_cons_zero, List.set_cons_succ]
    refine wpAnyH_ready (rs := [5]) (by kernel_rfl) (by simp) ?_
    refine AllReadyH.cons (o := { dst := some 48, op := Op.call { callee := Callee.value (Operand.func 12), args := #[Operand.tmp 46, Operand.tmp 47], argTypes := #[23, 23] }, type := 3, pos := "law.go:26", after := #[{ on := 3, ground := Ground.data }, { on := 4, ground := Ground.data }, { on := 2, ground := Ground.chain }], guard := none }) rfl (fun K hK => ?_) AllReadyH.nil
    go_simp
    refine (values_v _ _ _ _ _ _ _ la lb).mono ?_; rintro e w' ⟨rfl, hb, hk⟩
    refine hK.out _ _ (by (try dsimp only); go_keep) (fun hS => ?_)
    clear hK K
    try simp only [Act.put, List.setIfInBounds_toArray, List.set_cons_zero, List.set_cons_succ]
    refine wpAnyH_take (i := 6) (oi := { dst := some 49, op := Op.binOp BinOp.neq 3 (Operand.tmp 45) (Operand.tmp 48) 3, type := 4, pos := "law.go:26", after := #[{ on := 2, ground := Ground.data }, { on := 5, ground := Ground.data }], guard := none }) (v := ?_) rfl (by kernel_rfl) (by kernel_rfl) (by kernel_rfl) (fun _ _ _ h => h) (Or.inl ⟨by rfl, ?zy6⟩) (by assumption) ?zr6
    case zy6 => (intro w hSw; (try dsimp only at hSw); go_simp; (try with_reducible rfl))
    try simp only [Act.put, List.setIfInBounds_toArray, List.set_cons_zero, List.set_cons_succ]
    refine wpAnyH_take (i := 7) (oi := { dst := some 50, op := Op.move (Operand.tmp 49), type := 4, pos := "law.go:26", after := #[{ on := 6, ground := Ground.data }, { on := 5, ground := Ground.chain }], guard := none }) (v := ?_) rfl (by kernel_rfl) (by kernel_rfl) (by kernel_rfl) (fun _ _ _ h => h) (Or.inl ⟨by rfl, ?zy7⟩) (by assumption) ?zr7
    case zy7 => (intro w hSw; (try dsimp only at hSw); go_simp; (try with_reducible rfl))
    try simp only [Act.put, List.setIfInBounds_toArray, List.set_cons_zero, List.set_cons_succ]
    refine wpAnyH_take (i := 8) (oi := { dst := some 51, op := Op.move (Operand.tmp 12), type := 4, pos := "law.go:26", after := #[{ on := 7, ground := Ground.guard }], guard := some (7, false) }) (v := ?_) rfl (by kernel_rfl) (by kernel_rfl) (by kernel_rfl) (fun _ _ _ h => h) (Or.inl ⟨by rfl, ?zy8⟩) (by assumption) ?zr8
    case zy8 => (intro w hSw; (try dsimp only at hSw); go_simp; (try with_reducible rfl))
    try simp only [Act.put, List.setIfInBounds_toArray, List.set_cons_zero, List.set_cons_succ]
    refine wpAnyH_take (i := 9) (oi := { dst := some 52, op := Op.move (Operand.tmp 10), type := 24, pos := "law.go:26", after := #[{ on := 7, ground := Ground.guard }], guard := some (7, false) }) (v := ?_) rfl (by kernel_rfl) (by kernel_rfl) (by kernel_rfl) (fun _ _ _ h => h) (Or.inl ⟨by rfl, ?zy9⟩) (by assumption) ?zr9
    case zy9 => (intro w hSw; (try dsimp only at hSw); go_simp; (try with_reducible rfl))
    try simp only [Act.put, List.setIfInBounds_toArray, List.set_cons_zero, List.set_cons_succ]
    refine wpAnyH_take (i := 10) (oi := { dst := some 53, op := Op.binOp BinOp.eql 24 (Operand.tmp 52) (Operand.const (Value.int IntKind.i64 0)) 24, type := 4, pos := "law.go:26", after := #[{ on := 9, ground := Ground.data }, { on := 7, ground := Ground.guard }], guard := some (7, false) }) (v := ?_) rfl (by kernel_rfl) (by kernel_rfl) (by kernel_rfl) (fun _ _ _ h => h) (Or.inl ⟨by rfl, ?zy10⟩) (by assumption) ?zr10
    case zy10 => (intro w hSw; (try dsimp only at hSw); go_simp; (try with_reducible rfl))
    try simp only [Act.put, List.setIfInBounds_toArray, List.set_cons_zero, List.set_cons_succ]
    refine wpAnyH_take (i := 11) (oi := { dst := some 54, op := Op.binOp BinOp.neq 4 (Operand.tmp 51) (Operand.tmp 53) 4, type := 4, pos := "law.go:26", after := #[{ on := 8, ground := Ground.data }, { on := 10, ground := Ground.data }, { on := 7, ground := Ground.guard }], guard := some (7, false) }) (v := ?_) rfl (by kernel_rfl) (by kernel_rfl) (by kernel_rfl) (fun _ _ _ h => h) (Or.inl ⟨by rfl, ?zy11⟩) (by assumption) ?zr11
    case zy11 => (intro w hSw; (try dsimp only at hSw); go_simp; (try with_reducible rfl))
    try simp only [Act.put, List.setIfInBounds_toArray, List.set_cons_zero, List.set_cons_succ]
    refine wpAnyH_take (i := 12) (oi := { dst := some 55, op := Op.pick (Operand.tmp 50) (Operand.const (Value.bool true)) (Operand.tmp 54), type := 4, pos := "law.go:26", after := #[{ on := 7, ground := Ground.data }, { on := 11, ground := Ground.data }], guard := none }) (v := ?_) rfl (by kernel_rfl) (by kernel_rfl) (by kernel_rfl) (fun _ _ _ h => h) (Or.inl ⟨by rfl, ?zy12⟩) (by assumption) ?zr12
    case zy12 => (intro w hSw; (try dsimp only at hSw); go_simp; (try with_reducible rfl))
    try simp only [Act.put, List.setIfInBounds_toArray, List.set_cons_zero, List.set_cons_succ]
    refine wpAnyH_take (i := 13) (oi := { dst := some 56, op := Op.move (Operand.tmp 55), type := 4, pos := "law.go:26", after := #[{ on := 12, ground := Ground.data }, { on := 7, ground := Ground.chain }], guard := none }) (v := ?_) rfl (by kernel_rfl) (by kernel_rfl) (by kernel_rfl) (fun _ _ _ h => h) (Or.inl ⟨by rfl, ?zy13⟩) (by assumption) ?zr13
    case zy13 => (intro w hSw; (try dsimp only at hSw); go_simp; (try with_reducible rfl))
    try simp only [Act.put, List.setIfInBounds_toArray, List.set_cons_zero, List.set_cons_succ]
    refine wpAnyH_take (i := 14) (oi := { dst := some 57, op := Op.move (Operand.tmp 12), type := 4, pos := "law.go:26", after := #[{ on := 13, ground := Ground.guard }], guard := some (13, false) }) (v := ?_) rfl (by kernel_rfl) (by kernel_rfl) (by kernel_rfl) (fun _ _ _ h => h) (Or.inl ⟨by rfl, ?zy14⟩) (by assumption) ?zr14
    case zy14 => (intro w hSw; (try dsimp only at hSw); go_simp; (try with_reducible rfl))
    try simp only [Act.put, List.setIfInBounds_toArray, List.set_cons_zero, List.set_cons_succ]
    refine wpAnyH_take (i := 15) (oi := { dst := some 58, op := Op.unOp UnOp.not 4 (Operand.tmp 57), type := 4, pos := "law.go:26", after := #[{ on := 14, ground := Ground.data }, { on := 13, ground := Ground.guard }], guard := some (13, false) }) (v := ?_) rfl (by kernel_rfl) (by kernel_rfl) (by kernel_rfl) (fun _ _ _ h => h) (Or.inl ⟨by rfl, ?zy15⟩) (by assumption) ?zr15
    case zy15 => (intro w hSw; (try dsimp only at hSw); go_simp; (try with_reducible rfl))
    try simp only [Act.put, List.setIfInBounds_toArray, List.set_cons_zero, List.set_cons_succ]
    refine wpAnyH_take (i := 16) (oi := { dst := some 59, op := Op.move (Operand.tmp 58), type := 4, pos := "law.go:26", after := #[{ on := 15, ground := Ground.data }, { on := 13, ground := Ground.chain }, { on := 13, ground := Ground.guard }], guard := some (13, false) }) (v := ?_) rfl (by kernel_rfl) (by kernel_rfl) (by kernel_rfl) (fun _ _ _ h => h) (Or.inl ⟨by rfl, ?zy16⟩) (by assumption) ?zr16
    case zy16 => (intro w hSw; (try dsimp only at hSw); go_simp; (try with_reducible rfl))
    try simp only [Act.put, List.setIfInBounds_toArray, List.set_cons_zero, List.set_cons_succ]
    refine wpAnyH_take (i := 17) (oi := { dst := some 60, op := Op.move (Operand.tmp 10), type := 24, pos := "law.go:26", after := #[{ on := 16, ground := Ground.guard }], guard := some (16, true) }) rfl (by kernel_rfl) (by kernel_rfl) (by kernel_rfl) (fun _ _ _ h => h) (Or.inr ⟨by rfl, rfl⟩) (by assumption) ?_
    try simp only [Act.put, List.setIfInBounds_toArray, List.set_cons_zero, List.set_cons_succ]
    refine wpAnyH_take (i := 18) (oi := { dst := some 61, op := Op.binOp BinOp.neq 24 (Operand.tmp 60) (Operand.const (Value.int IntKind.i64 7)) 24, type := 4, pos := "law.go:26", after := #[{ on := 17, ground := Ground.data }, { on := 16, ground := Ground.guard }], guard := some (16, true) }) rfl (by kernel_rfl) (by kernel_rfl) (by kernel_rfl) (fun _ _ _ h => h) (Or.inr ⟨by rfl, rfl⟩) (by assumption) ?_
    try simp only [Act.put, List.setIfInBounds_toArray, List.set_cons_zero, List.set_cons_succ]
    refine wpAnyH_take (i := 19) (oi := { dst := some 62, op := Op.pick (Operand.tmp 59) (Operand.tmp 61) (Operand.const (Value.bool false)), type := 4, pos := "law.go:26", after := #[{ on := 16, ground := Ground.data }, { on := 18, ground := Ground.data }, { on := 13, ground := Ground.guard }], guard := some (13, false) }) (v := ?_) rfl (by kernel_rfl) (by kernel_rfl) (by kernel_rfl) (fun _ _ _ h => h) (Or.inl ⟨by rfl, ?zy19⟩) (by assumption) ?zr19
    case zy19 => (intro w hSw; (try dsimp only at hSw); go_simp; (try with_reducible rfl))
    try simp only [Act.put, List.setIfInBounds_toArray, List.set_cons_zero, List.set_cons_succ]
    refine wpAnyH_take (i := 20) (oi := { dst := some 63, op := Op.pick (Operand.tmp 56) (Operand.const (Value.bool true)) (Operand.tmp 62), type := 4, pos := "law.go:26", after := #[{ on := 13, ground := Ground.data }, { on := 19, ground := Ground.data }], guard := none }) (v := ?_) rfl (by kernel_rfl) (by kernel_rfl) (by kernel_rfl) (fun _ _ _ h => h) (Or.inl ⟨by rfl, ?zy20⟩) (by assumption) ?zr20
    case zy20 => (intro w hSw; (try dsimp only at hSw); go_simp; (try with_reducible rfl))
    try simp only [Act.put, List.setIfInBounds_toArray, List.set_cons_zero, List.set_cons_succ]
    refine wpAnyH_take (i := 21) (oi := { dst := some 64, op := Op.move (Operand.tmp 63), type := 4, pos := "law.go:26", after := #[{ on := 20, ground := Ground.data }, { on := 16, ground := Ground.chain }], guard := none }) (v := ?_) rfl (by kernel_rfl) (by kernel_rfl) (by kernel_rfl) (fun _ _ _ h => h) (Or.inl ⟨by rfl, ?zy21⟩) (by assumption) ?zr21
    case zy21 => (intro w hSw; (try dsimp only at hSw); go_simp; (try with_reducible rfl))
    try simp only [Act.put, List.setIfInBounds_toArray, List.set_cons_zero, List.set_cons_succ]
    refine wpAnyH_take (i := 22) (oi := { dst := some 65, op := Op.load 23 (Operand.tmp 9), type := 23, pos := "law.go:26", after := #[{ on := 21, ground := Ground.guard }], guard := some (21, false) }) (v := ?_) rfl (by kernel_rfl) (by kernel_rfl) (by kernel_rfl) (fun _ _ _ h => h) (Or.inl ⟨by rfl, ?zy22⟩) (by assumption) ?zr22
    case zy22 => (intro w hSw; (try dsimp only at hSw); go_simp; (try with_reducible rfl))
    try simp only [Act.put, List.setIfInBounds_toArray, List.set_cons_zero, List.set_cons_succ]
    refine wpAnyH_take (i := 23) (oi := { dst := some 66, op := Op.load 23 (Operand.tmp 11), type := 23, pos := "law.go:26", after := #[{ on := 21, ground := Ground.guard }], guard := some (21, false) }) (v := ?_) rfl (by kernel_rfl) (by kernel_rfl) (by kernel_rfl) (fun _ _ _ h => h) (Or.inl ⟨by rfl, ?zy23⟩) (by assumption) ?zr23
    case zy23 => (intro w hSw; (try dsimp only at hSw); go_simp; (try with_reducible rfl))
    try simp only [Act.put, List.setIfInBounds_toArray, List.set_cons_zero, List.set_cons_succ]
    refine wpAnyH_take (i := 24) (oi := { dst := some 67, op := Op.binOp BinOp.neq 23 (Operand.tmp 65) (Operand.tmp 66) 23, type := 4, pos := "law.go:26", after := #[{ on := 22, ground := Ground.data }, { on := 23, ground := Ground.data }, { on := 21, ground := Ground.guard }], guard := some (21, false) }) (v := ?_) rfl (by kernel_rfl) (by kernel_rfl) (by kernel_rfl) (fun _ _ _ h => h) (Or.inl ⟨by rfl, ?zy24⟩) (by assumption) ?zr24
    case zy24 => (intro w hSw; (try dsimp only at hSw); go_simp; (try with_reducible rfl))
    try simp only [Act.put, List.setIfInBounds_toArray, List.set_cons_zero, List.set_cons_succ]
    refine wpAnyH_take (i := 25) (oi := { dst := some 68, op := Op.pick (Operand.tmp 64) (Operand.const (Value.bool true)) (Operand.tmp 67), type := 4, pos := "law.go:26", after := #[{ on := 21, ground := Ground.data }, { on := 24, ground := Ground.data }], guard := none }) (v := ?_) rfl (by kernel_rfl) (by kernel_rfl) (by kernel_rfl) (fun _ _ _ h => h) (Or.inl ⟨by rfl, ?zy25⟩) (by assumption) ?zr25
    case zy25 => (intro w hSw; (try dsimp only at hSw); go_simp; (try with_reducible rfl))
    try simp only [Act.put, List.setIfInBounds_toArray, List.set_cons_zero, List.set_cons_succ]
    refine wpAnyH_done (by kernel_rfl) ?_ _
    have hw' : Below w.heap.size w w' := bt (bt hY.drew hbx) hb
    clear a0 a1 a2 b0 b1 b2 v0 v1 v2 p0 p1 p2 hkx hk lt0 lt
    obtain ⟨a0, a1, a2, b0, b1, b2, v0, v1, v2, p0, p1, p2⟩ := hS
    go_wp2_with (go_at_call 13; refine (refValue_any _ _ _ _ la).mono ?_; rintro e w5 ⟨rfl, k5⟩; rw [unhide HA]; refine Hid.out ?_)
    have hw5 := bt hw' k5
    have a0 := cell_on k5 a0
    have a1 := cell_on k5 a1
    have a2 := cell_on k5 a2
    refine Lib.hid ?_
    go_wp2_with (go_at_call 14; refine (check_any _ _ _ _ la').mono ?_; rintro e w6 ⟨rfl, k6⟩; rw [unhide HC]; refine Hid.out ?_)
    have hw6 := bt hw5 k6
    have a0 := cell_on k6 a0
    have a1 := cell_on k6 a1
    have a2 := cell_on k6 a2
    refine Lib.hid ?_
    go_wp2_with (go_at_call 16; refine (refText_any _ _ _ ta _ (unhide HA) (unhide HTA) la).mono ?_; rintro e w7 ⟨rfl, k7⟩; refine Hid.out ?_)
    have hw7 := bt hw6 k7
    refine Lib.hid ?_
    go_wp2_with (go_at_call 15; refine (wakes_any _ (he.on hw7)).mono ?_; rintro e w8 ⟨rfl, k8⟩)
    go_ret
    exact ⟨rfl, bt hw7 k8⟩

set_option maxHeartbeats 1000000 in
theorem exact_long (ka na kb nb : Int) (sa sb s : ByteArray) (w : World)
    (h : decide (200 < (sa.size : Int)) = true ∨ decide (200 < (sa.size : Int)) = false ∧ decide (200 < (sb.size : Int)) = true ∨ decide (200 < (sa.size : Int)) = false ∧ decide (200 < (sb.size : Int)) = false ∧ decide (200 < (s.size : Int)) = true) :
    Calls Tryd.prog 3 #[.agg #[.int .i64 ka, .int .i64 na, .string sa], .agg #[.int .i64 kb, .int .i64 nb, .string sb], .string s] w fun e w' => e = .returned (.bool true) ∧ Below w.heap.size w w' := by
  rcases h with h | ⟨h, h'⟩ | ⟨h, h', h''⟩
  all_goals
   go_enter Tryd.func3, Tryd.ntmps3
   go_wp2
   go_ret
   exact ⟨rfl, ((Below.refl _ _).alloc (Nat.le_refl _) _).alloc (by simp) _⟩

theorem pv_no (s : ByteArray) (w : World) (hs : s.size ≤ 900) (h : parseL s.data.toList = none) :
    Calls Tryd.prog 10 #[.string s] w fun e w' => e = .returned (.tuple #[.agg #[.int .i64 0, .int .i64 0, .string ⟨#[]⟩], .bool false]) ∧ Below w.heap.size w w' := by
  refine (pv_any s w hs).mono ?_
  rintro e w' ⟨hp, hb⟩
  unfold PVRes at hp
  rw [h] at hp
  exact ⟨hp, hb⟩
theorem pv_ok (s sr : ByteArray) (k n : Int) (w : World) (hs : s.size ≤ 900) (h : parseL s.data.toList = some (k, n, sr.data.toList)) :
    Calls Tryd.prog 10 #[.string s] w fun e w' => e = .returned (.tuple #[.agg #[.int .i64 k, .int .i64 n, .string sr], .bool true]) ∧ Below w.heap.size w w' := by
  refine (pv_any s w hs).mono ?_
  rintro e w' ⟨hp, hb⟩
  unfold PVRes at hp
  rw [h] at hp
  exact ⟨hp, hb⟩

theorem exact_any (ka na kb nb : Int) (sa sb s : ByteArray) (w : World) (he : Env w) :
    Calls Tryd.prog 3 #[.agg #[.int .i64 ka, .int .i64 na, .string sa], .agg #[.int .i64 kb, .int .i64 nb, .string sb], .string s] w fun e w' => e = .returned (.bool true) ∧ Below w.heap.size w w' := by
  cases da : decide (200 < (sa.size : Int))
  · cases db : decide (200 < (sb.size : Int))
    · cases ds : decide (200 < (s.size : Int))
      · have la : sa.size ≤ 1000 := by simp at da; omega
        have lb : sb.size ≤ 1000 := by simp at db; omega
        have ls : s.size ≤ 1000 := by simp at ds; omega
        have ls9 : s.size ≤ 900 := by simp at ds; omega
        have la' : sa.size ≤ maxLen := by unfold maxLen; omega
        have hP : ∃ (vk vn : Int) (vr : ByteArray) (fI : Int) (ok : Bool), (fI = 7 ∧ ok = false ∨ fI = 0 ∧ ok = true) ∧
            (∀ W, Env W → Calls Tryd.prog 9 #[.string s] W fun e w' => e = .returned (.tuple #[.agg #[.int .i64 vk, .int .i64 vn, .string vr], .int .i64 fI]) ∧ Below W.heap.size W w') ∧
            (∀ W, Calls Tryd.prog 10 #[.string s] W fun e w' => e = .returned (.tuple #[.agg #[.int .i64 vk, .int .i64 vn, .string vr], .bool ok]) ∧ Below W.heap.size W w') := by
          cases hp : parseL s.data.toList with
          | none => exact ⟨0, 0, ⟨#[]⟩, 7, false, Or.inl ⟨rfl, rfl⟩, fun W hE => parse_no s W ls hE hp, fun W => pv_no s W ls9 hp⟩
          | some t =>
            obtain ⟨k, n, r⟩ := t
            obtain ⟨r', rfl⟩ : ∃ r' : ByteArray, r'.data.toList = r := ⟨⟨r.toArray⟩, by simp⟩
            exact ⟨k, n, r', 0, true, Or.inr ⟨rfl, rfl⟩, fun W hE => parse_str s r' k n W ls hE hp, fun W => pv_ok s r' k n W ls9 hp⟩
        obtain ⟨vk, vn, vr, fI, ok, hfo, hv, hr⟩ := hP
        cases hpa : rightB ka na sa.data.toList with
        | false => exact exact_bad ka na kb nb sa sb s w he la lb da db ds la' vk vn vr fI ok hfo (hide hv) (hide hr) (hide hpa)
        | true =>
          obtain ⟨ta, hta⟩ : ∃ t : ByteArray, t.data.toList = textL ka na sa.data.toList := ⟨⟨(textL ka na sa.data.toList).toArray⟩, by simp⟩
          exact exact_ok ka na kb nb sa sb s w he la lb da db ds la' vk vn vr fI ok hfo (hide hv) (hide hr) (hide hpa) ta (hide hta)
      · exact exact_long ka na kb nb sa sb s w (Or.inr (Or.inr ⟨da, db, ds⟩))
    · exact exact_long ka na kb nb sa sb s w (Or.inr (Or.inl ⟨da, db⟩))
  · exact exact_long ka na kb nb sa sb s w (Or.inl da)
end Go.Proofs.YthhfahfgfcicbaaDoor

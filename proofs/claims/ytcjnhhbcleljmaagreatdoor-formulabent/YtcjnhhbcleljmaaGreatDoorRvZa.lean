/- Joined: RvA RvB RvC RvD RvE RvF RvG RvH RvI. -/
import Derived.Test.YtcjnhhbcleljmaaGreatDoorRuZd
import Derived.Test.YtcjnhhbcleljmaaGreatDoorRulZb
import Derived.Test.YtcjnhhbcleljmaaGreatDoorAtF
namespace Go.Proofs.YtcjnhhbcleljmaaGreatDoor.Sb
open Go.RowKit
open V
open Ex (RowO LiesO flatO liesO_own)

/-- A condition's box, none of its cells frozen. -/
structure CB (W : World) (g : Nat) (v0 v1 v2 v3 v4 v5 : Value) : Prop where
  at_ : W.heap[g]? = some (.cells #[v0, v1, v2, v3, v4, v5] 83 (0, 0))
namespace CB
variable {W W' : World} {g b : Nat} {v0 v1 v2 v3 v4 v5 : Value}
theorem lt (h : CB W g v0 v1 v2 v3 v4 v5) : g < W.heap.size := (Array.getElem?_eq_some_iff.1 h.at_).1
theorem new (w : World) : CB (w.alloc (.cells #[v0, v1, v2, v3, v4, v5] 83)) w.heap.size v0 v1 v2 v3 v4 v5 := ⟨heap_alloc_new w _⟩
theorem on (h : CB W g v0 v1 v2 v3 v4 v5) (hb : Below W.heap.size W W') : CB W' g v0 v1 v2 v3 v4 v5 := ⟨by rw [hb.block g h.lt]; exact h.at_⟩
theorem turn (h : CB W g v0 v1 v2 v3 v4 v5) (ht : Turns b W W') (hne : g ≠ b) : CB W' g v0 v1 v2 v3 v4 v5 := ⟨(ht.block g h.lt (fun e => hne (Option.some.inj e))).trans h.at_⟩
theorem c0 (h : CB W g v0 v1 v2 v3 v4 v5) : W.cell? ⟨g, 0, none⟩ = some v0 := by rw [Lib.cell_of_heap h.at_]; rfl
theorem c1 (h : CB W g v0 v1 v2 v3 v4 v5) : W.cell? ⟨g, 1, none⟩ = some v1 := by rw [Lib.cell_of_heap h.at_]; rfl
theorem c2 (h : CB W g v0 v1 v2 v3 v4 v5) : W.cell? ⟨g, 2, none⟩ = some v2 := by rw [Lib.cell_of_heap h.at_]; rfl
theorem c3 (h : CB W g v0 v1 v2 v3 v4 v5) : W.cell? ⟨g, 3, none⟩ = some v3 := by rw [Lib.cell_of_heap h.at_]; rfl
theorem c4 (h : CB W g v0 v1 v2 v3 v4 v5) : W.cell? ⟨g, 4, none⟩ = some v4 := by rw [Lib.cell_of_heap h.at_]; rfl
theorem c5 (h : CB W g v0 v1 v2 v3 v4 v5) : W.cell? ⟨g, 5, none⟩ = some v5 := by rw [Lib.cell_of_heap h.at_]; rfl
theorem fz (h : CB W g v0 v1 v2 v3 v4 v5) (i : Nat) : W.frozen? ⟨g, i, none⟩ = false := Lib.frozen_of_heap h.at_ i
theorem set0 (h : CB W g v0 v1 v2 v3 v4 v5) (x : Value) : CB (W.setCell ⟨g, 0, none⟩ x) g x v1 v2 v3 v4 v5 := ⟨by rw [Lib.heap_setCell_same h.at_]; rfl⟩
theorem set1 (h : CB W g v0 v1 v2 v3 v4 v5) (x : Value) : CB (W.setCell ⟨g, 1, none⟩ x) g v0 x v2 v3 v4 v5 := ⟨by rw [Lib.heap_setCell_same h.at_]; rfl⟩
theorem set2 (h : CB W g v0 v1 v2 v3 v4 v5) (x : Value) : CB (W.setCell ⟨g, 2, none⟩ x) g v0 v1 x v3 v4 v5 := ⟨by rw [Lib.heap_setCell_same h.at_]; rfl⟩
theorem set3 (h : CB W g v0 v1 v2 v3 v4 v5) (x : Value) : CB (W.setCell ⟨g, 3, none⟩ x) g v0 v1 v2 x v4 v5 := ⟨by rw [Lib.heap_setCell_same h.at_]; rfl⟩
theorem set4 (h : CB W g v0 v1 v2 v3 v4 v5) (x : Value) : CB (W.setCell ⟨g, 4, none⟩ x) g v0 v1 v2 v3 x v5 := ⟨by rw [Lib.heap_setCell_same h.at_]; rfl⟩
theorem set5 (h : CB W g v0 v1 v2 v3 v4 v5) (x : Value) : CB (W.setCell ⟨g, 5, none⟩ x) g v0 v1 v2 v3 v4 x := ⟨by rw [Lib.heap_setCell_same h.at_]; rfl⟩
end CB
/-- A row of the call's own stays where the block ahead of it is written over. -/
theorem own_low {w : World} {B g i : Nat} {e : TypeId} {s : Nat} {v : Value} {n : Nat} {xs : List Value} (h : w.ownsRow B e s v n xs) (hg : g < B) (u : Value) : (w.setCell ⟨g, i, none⟩ u).ownsRow B e s v n xs :=
  own_off h (a := ⟨g, i, none⟩) (fun m hm => by have := (h.lt m hm).1; simp only; omega) u
/-- All six cells written over. -/
abbrev six (W : World) (g : Nat) (x0 x1 x2 x3 x4 x5 : Value) : World := (((((W.setCell ⟨g, 0, none⟩ x0).setCell ⟨g, 1, none⟩ x1).setCell ⟨g, 2, none⟩ x2).setCell ⟨g, 3, none⟩ x3).setCell ⟨g, 4, none⟩ x4).setCell ⟨g, 5, none⟩ x5
theorem CB.six {W : World} {g : Nat} {v0 v1 v2 v3 v4 v5 : Value} (h : CB W g v0 v1 v2 v3 v4 v5) (x0 x1 x2 x3 x4 x5 : Value) : CB (six W g x0 x1 x2 x3 x4 x5) g x0 x1 x2 x3 x4 x5 := (((((h.set0 x0).set1 x1).set2 x2).set3 x3).set4 x4).set5 x5
theorem Rdr.six {w0 W : World} {b : Nat} {a : Option Addr} {n c p : Nat} (R : Rdr w0 W b a n c p) {g : Nat} (hg : w0.heap.size ≤ g) (hne : g ≠ b) (x0 x1 x2 x3 x4 x5 : Value) : Rdr w0 (six W g x0 x1 x2 x3 x4 x5) b a n c p :=
  (((((R.new hg hne x0).new hg hne x1).new hg hne x2).new hg hne x3).new hg hne x4).new hg hne x5
theorem Turns.six {b : Nat} {w W : World} (h : Turns b w W) {g : Nat} (hg : w.heap.size ≤ g) (x0 x1 x2 x3 x4 x5 : Value) : Turns b w (six W g x0 x1 x2 x3 x4 x5) :=
  (((((h.new hg x0).new hg x1).new hg x2).new hg x3).new hg x4).new hg x5
theorem zero_c {W : World} {g : Nat} {v0 v1 v2 v3 v4 v5 : Value} (h : CB W g v0 v1 v2 v3 v4 v5) : CB (six W g (.int .i64 0) (.string ⟨#[]⟩) (.slice none 0 0) (.int .i64 0) (.slice none 0 0) (.slice none 0 0)) g (.int .i64 0) (.string ⟨#[]⟩) (.slice none 0 0) (.int .i64 0) (.slice none 0 0) (.slice none 0 0) := h.six _ _ _ _ _ _
theorem own_six {w : World} {B g : Nat} {e : TypeId} {s : Nat} {v : Value} {n : Nat} {xs : List Value} (h : w.ownsRow B e s v n xs) (hg : g < B) (x0 x1 x2 x3 x4 x5 : Value) : (six w g x0 x1 x2 x3 x4 x5).ownsRow B e s v n xs :=
  own_low (own_low (own_low (own_low (own_low (own_low h hg x0) hg x1) hg x2) hg x3) hg x4) hg x5
/-- A condition, as it is handed back. -/
abbrev aggC (d : Cd) : Value := .agg #[.int .i64 d.k, .string d.n, .slice d.a d.m d.mc, .int .i64 d.h, .slice d.la d.ll d.lc, .slice d.ra d.rl d.rc]
abbrev zeroCd : Cd := ⟨0, ⟨#[]⟩, none, 0, 0, [], 0, none, 0, 0, [], none, 0, 0, []⟩
/-- What a reader of a condition answers; its rows are memory of their own. -/
def CondRes (w0 w : World) (b : Nat) (a : Option Addr) (n c : Nat) (r : Except (Option Nat) (Cp × List Kt × Nat)) (e : Ending) (w' : World) : Prop := match r with
  | .ok x => (∃ d : Cd, e = .returned (.tuple #[aggC d, .int .i64 0]) ∧ d.Own w' w.heap.size (.slice none 0 0) ∧ d.pl = cutC x.1) ∧ Rdr w0 w' b a n c x.2.2 ∧ Turns b w w'
  | .error (some q) => (∃ d : Cd, e = .returned (.tuple #[aggC d, .int .i64 7])) ∧ Rdr w0 w' b a n c q ∧ Turns b w w'
  | .error none => (∃ d : Cd, e = .returned (.tuple #[aggC d, .int .i64 2])) ∧ (∃ q, Rdr w0 w' b a n c q) ∧ Turns b w w'
/-- What stands behind a guard's bracket. -/
def guardR : Rd Cp := bindR exprR (fun x => bindR howR (fun h => bindR exprR (fun y => bindR (takeR (5, [93])) (fun _ => pureR (3, noA, h, x, y)))))
set_option maxHeartbeats 8000000 in
set_option maxRecDepth 100000 in
theorem guard_any {w0 : World} {a : Option Addr} {n c : Nat} {xs : List Tm} (G : Sg w0 a n c xs) {b p : Nat} (r : Except (Option Nat) (Cp × List Kt × Nat)) (w : World) (R : Rdr w0 w b a n c p) (H : Hid (guardR ((xs.map ktm).drop p) p = r)) :
    Calls Tryz.prog 159 #[.pointer (some ⟨b, 0, none⟩)] w fun e w' => CondRes w0 w b a n c r e w' := by
  have hlen := G.len
  have hblt := R.lt
  have hne : w.heap.size ≠ b := fun e => by omega
  have hlo : w0.heap.size ≤ w.heap.size := R.bel.size
  have hb0 := below_new w (.cells #[.int .i64 3, .string ⟨#[]⟩, .slice none 0 0, .int .i64 0, .slice none 0 0, .slice none 0 0] 83)
  have C0 := CB.new (v0 := .int .i64 0) (v1 := .string ⟨#[]⟩) (v2 := .slice none 0 0) (v3 := .int .i64 0) (v4 := .slice none 0 0) (v5 := .slice none 0 0) w
  obtain ⟨y0, g0⟩ : _ ∧ _ := ⟨C0.c0, C0.fz 0⟩
  have C1 := CB.new (v0 := .int .i64 3) (v1 := .string ⟨#[]⟩) (v2 := .slice none 0 0) (v3 := .int .i64 0) (v4 := .slice none 0 0) (v5 := .slice none 0 0) w
  have R1 := R.on hb0
  have ht1 := Turns.of (b := b) hb0
  have hs1 : (w.alloc (.cells #[.int .i64 3, .string ⟨#[]⟩, .slice none 0 0, .int .i64 0, .slice none 0 0, .slice none 0 0] 83)).heap.size = w.heap.size + 1 := by simp
  have hpn := R.le
  clear hb0 R C0
  obtain ⟨rx, hrx⟩ : ∃ rx, exprR ((xs.map ktm).drop p) p = rx := ⟨_, rfl⟩
  go_enter Tryz.func159, Tryz.ntmps159
  go_wp2_with fail
  clear y0 g0
  generalize w.alloc (.cells #[.int .i64 3, .string ⟨#[]⟩, .slice none 0 0, .int .i64 0, .slice none 0 0, .slice none 0 0] 83) = W1 at C1 R1 ht1 hs1 ⊢
  have F := expr_any G rx W1 R1 (hide hrx)
  rcases rx with (_ | q) | ⟨x, rest, q⟩
  · refine F.mono ?_
    rintro e W2 ⟨rfl, ⟨q, R2'⟩, hta⟩
    have C1' := C1.turn hta hne
    have ht1' := ht1.tr hta
    clear F C1 R1 ht1 hta
    have HE := hide ((unhide H).symm.trans (bind_no _ hrx))
    clear H
    have C2 := C1'.set4 (.slice none 0 0)
    have R2 := R2'.new hlo hne (i := 4) (.slice none 0 0)
    have ht2 := ht1'.new (g := w.heap.size) (i := 4) (Nat.le_refl _) (.slice none 0 0)
    obtain ⟨y4, g4⟩ : _ ∧ _ := ⟨C1'.c4, C1'.fz 4⟩
    have C3 := zero_c C2
    obtain ⟨t0, t1, t2, t3, t4, t5⟩ : _ ∧ _ ∧ _ ∧ _ ∧ _ ∧ _ := ⟨C3.c0, C3.c1, C3.c2, C3.c3, C3.c4, C3.c5⟩
    obtain ⟨z0, z1, z2, z3, z4, z5⟩ : _ ∧ _ ∧ _ ∧ _ ∧ _ ∧ _ := ⟨C2.c0, C2.c1, C2.c2, C2.c3, C2.c4, C2.c5⟩
    obtain ⟨f0, f1, f2, f3, f4, f5⟩ : _ ∧ _ ∧ _ ∧ _ ∧ _ ∧ _ := ⟨C2.fz 0, C2.fz 1, C2.fz 2, C2.fz 3, C2.fz 4, C2.fz 5⟩
    clear C2 C3
    go_wp2_with fail
    refine bodyPost_ret (v := .tuple #[aggC zeroCd, .int .i64 2]) (by simp [results, Tryz.results159, go_sem, t0, t1, t2, t3, t4, t5]) rfl ?_
    rw [unhide HE]
    exact ⟨⟨zeroCd, rfl⟩, ⟨q, R2.six hlo hne _ _ _ _ _ _⟩, ht2.six (Nat.le_refl _) _ _ _ _ _ _⟩
  · refine F.mono ?_
    rintro e W2 ⟨rfl, R2', hta⟩
    have C1' := C1.turn hta hne
    have ht1' := ht1.tr hta
    clear F C1 R1 ht1 hta
    have HE := hide ((unhide H).symm.trans (bind_no _ hrx))
    clear H
    have C2 := C1'.set4 (.slice none 0 0)
    have R2 := R2'.new hlo hne (i := 4) (.slice none 0 0)
    have ht2 := ht1'.new (g := w.heap.size) (i := 4) (Nat.le_refl _) (.slice none 0 0)
    obtain ⟨y4, g4⟩ : _ ∧ _ := ⟨C1'.c4, C1'.fz 4⟩
    have C3 := zero_c C2
    obtain ⟨t0, t1, t2, t3, t4, t5⟩ : _ ∧ _ ∧ _ ∧ _ ∧ _ ∧ _ := ⟨C3.c0, C3.c1, C3.c2, C3.c3, C3.c4, C3.c5⟩
    obtain ⟨z0, z1, z2, z3, z4, z5⟩ : _ ∧ _ ∧ _ ∧ _ ∧ _ ∧ _ := ⟨C2.c0, C2.c1, C2.c2, C2.c3, C2.c4, C2.c5⟩
    obtain ⟨f0, f1, f2, f3, f4, f5⟩ : _ ∧ _ ∧ _ ∧ _ ∧ _ ∧ _ := ⟨C2.fz 0, C2.fz 1, C2.fz 2, C2.fz 3, C2.fz 4, C2.fz 5⟩
    clear C2 C3
    go_wp2_with fail
    refine bodyPost_ret (v := .tuple #[aggC zeroCd, .int .i64 7]) (by simp [results, Tryz.results159, go_sem, t0, t1, t2, t3, t4, t5]) rfl ?_
    rw [unhide HE]
    exact ⟨⟨zeroCd, rfl⟩, R2.six hlo hne _ _ _ _ _ _, ht2.six (Nat.le_refl _) _ _ _ _ _ _⟩
  · obtain ⟨g1, g2, g3⟩ := places_expr (by rw [hlen]; exact hpn) hrx
    simp only at g1 g2 g3
    subst g1
    rw [hlen] at g3
    have HG := hide ((unhide H).symm.trans (bind_yes _ hrx))
    clear H hrx
    obtain ⟨rh, hrh⟩ : ∃ rh, kH (xs.map ktm) q = rh := ⟨_, rfl⟩
    refine F.mono ?_
    rintro e W2 ⟨⟨xo, xl, xc, rfl, ho⟩, R2', hta⟩
    simp only at ho R2'
    have C1' := C1.turn hta hne
    have ht1' := ht1.tr hta
    have ho1 := own_low (i := 4) (own_mono ho (B' := w.heap.size + 1) (by omega)) (Nat.lt_succ_self _) (.slice xo xl xc)
    have C2 := C1'.set4 (.slice xo xl xc)
    have R2 := R2'.new hlo hne (i := 4) (.slice xo xl xc)
    have ht2 := ht1'.new (g := w.heap.size) (i := 4) (Nat.le_refl _) (.slice xo xl xc)
    have hs2 : w.heap.size + 1 ≤ W2.heap.size := by have := hta.size; omega
    obtain ⟨y4, g4⟩ : _ ∧ _ := ⟨C1'.c4, C1'.fz 4⟩
    clear F C1 R1 ht1 hta C1' ht1' R2' ho hs1
    go_wp2_with fail
    clear y4 g4
    have hs3 : w.heap.size + 1 ≤ (W2.setCell ⟨w.heap.size, 4, none⟩ (.slice xo xl xc)).heap.size := by simp; omega
    generalize W2.setCell ⟨w.heap.size, 4, none⟩ (.slice xo xl xc) = W3 at C2 R2 ht2 ho1 hs3 ⊢
    clear hs2
    refine (how_any G rh W3 R2 (hide hrh)).mono ?_
    rintro e W4 hres
    cases rh with
    | none =>
      obtain ⟨rfl, hb4⟩ := hres
      have C3 := C2.on hb4
      have R3 := R2.on hb4
      have ht3 := ht2.go hb4
      have H := hide (unhide HG).symm
      clear HG C2 R2 ht2 ho1 hs3
      have HE := hide ((unhide H).symm.trans (bind_no _ (howR_no hrh)))
      clear H
      have C2 := C3.set3 (.int .i64 0)
      have R2 := R3.new hlo hne (i := 3) (.int .i64 0)
      have ht2 := ht3.new (g := w.heap.size) (i := 3) (Nat.le_refl _) (.int .i64 0)
      obtain ⟨y3, g3⟩ : _ ∧ _ := ⟨C3.c3, C3.fz 3⟩
      have C3 := zero_c C2
      obtain ⟨t0, t1, t2, t3, t4, t5⟩ : _ ∧ _ ∧ _ ∧ _ ∧ _ ∧ _ := ⟨C3.c0, C3.c1, C3.c2, C3.c3, C3.c4, C3.c5⟩
      obtain ⟨z0, z1, z2, z3, z4, z5⟩ : _ ∧ _ ∧ _ ∧ _ ∧ _ ∧ _ := ⟨C2.c0, C2.c1, C2.c2, C2.c3, C2.c4, C2.c5⟩
      obtain ⟨f0, f1, f2, f3, f4, f5⟩ : _ ∧ _ ∧ _ ∧ _ ∧ _ ∧ _ := ⟨C2.fz 0, C2.fz 1, C2.fz 2, C2.fz 3, C2.fz 4, C2.fz 5⟩
      clear C2 C3
      go_wp2_with fail
      refine bodyPost_ret (v := .tuple #[aggC zeroCd, .int .i64 7]) (by simp [results, Tryz.results159, go_sem, t0, t1, t2, t3, t4, t5]) rfl ?_
      rw [unhide HE]
      exact ⟨⟨zeroCd, rfl⟩, R2.six hlo hne _ _ _ _ _ _, ht2.six (Nat.le_refl _) _ _ _ _ _ _⟩
    | some h =>
      obtain ⟨rfl, R3, ht3⟩ := hres
      have hq1 : q < n := by have := kH_lt hrh; rw [hlen] at this; exact this
      have HG2 := hide ((unhide HG).trans (bind_yes _ (howR_yes hrh)))
      have C3 := (C2.turn ht3 hne).set3 (.int .i64 h)
      have ho2 := own_low (i := 3) (own_turn ho1 ht3 (by omega)) (Nat.lt_succ_self _) (.int .i64 h)
      have R4 := R3.new hlo hne (i := 3) (.int .i64 h)
      have ht4 := (ht2.tr ht3).new (g := w.heap.size) (i := 3) (Nat.le_refl _) (.int .i64 h)
      obtain ⟨y3, g3'⟩ : _ ∧ _ := ⟨(C2.turn ht3 hne).c3, (C2.turn ht3 hne).fz 3⟩
      have hs4 : w.heap.size + 1 ≤ (W4.setCell ⟨w.heap.size, 3, none⟩ (.int .i64 h)).heap.size := by have := ht3.size; simp; omega
      clear HG hrh C2 R2 ht2 ho1 hs3 R3 ht3
      obtain ⟨ry, hry⟩ : ∃ ry, exprR ((xs.map ktm).drop (q + 1)) (q + 1) = ry := ⟨_, rfl⟩
      go_wp2_with fail
      clear y3 g3'
      generalize W4.setCell ⟨w.heap.size, 3, none⟩ (.int .i64 h) = W5 at C3 R4 ht4 ho2 hs4 ⊢
      have F2 := expr_any G ry W5 R4 (hide hry)
      rcases ry with (_ | q2) | ⟨y, rest2, q2⟩
      · refine F2.mono ?_
        rintro e W6 ⟨rfl, ⟨q2, R5⟩, hta⟩
        have C4 := C3.turn hta hne
        have ht5 := ht4.tr hta
        have H := hide (unhide HG2).symm
        clear F2 HG2 C3 R4 ht4 hta ho2 hs4
        have HE := hide ((unhide H).symm.trans (bind_no _ hry))
        clear H
        have C2 := C4.set5 (.slice none 0 0)
        have R2 := R5.new hlo hne (i := 5) (.slice none 0 0)
        have ht2 := ht5.new (g := w.heap.size) (i := 5) (Nat.le_refl _) (.slice none 0 0)
        obtain ⟨y5, g5⟩ : _ ∧ _ := ⟨C4.c5, C4.fz 5⟩
        have C3 := zero_c C2
        obtain ⟨t0, t1, t2, t3, t4, t5⟩ : _ ∧ _ ∧ _ ∧ _ ∧ _ ∧ _ := ⟨C3.c0, C3.c1, C3.c2, C3.c3, C3.c4, C3.c5⟩
        obtain ⟨z0, z1, z2, z3, z4, z5⟩ : _ ∧ _ ∧ _ ∧ _ ∧ _ ∧ _ := ⟨C2.c0, C2.c1, C2.c2, C2.c3, C2.c4, C2.c5⟩
        obtain ⟨f0, f1, f2, f3, f4, f5⟩ : _ ∧ _ ∧ _ ∧ _ ∧ _ ∧ _ := ⟨C2.fz 0, C2.fz 1, C2.fz 2, C2.fz 3, C2.fz 4, C2.fz 5⟩
        clear C2 C3
        go_wp2_with fail
        refine bodyPost_ret (v := .tuple #[aggC zeroCd, .int .i64 2]) (by simp [results, Tryz.results159, go_sem, t0, t1, t2, t3, t4, t5]) rfl ?_
        rw [unhide HE]
        exact ⟨⟨zeroCd, rfl⟩, ⟨q2, R2.six hlo hne _ _ _ _ _ _⟩, ht2.six (Nat.le_refl _) _ _ _ _ _ _⟩
      · refine F2.mono ?_
        rintro e W6 ⟨rfl, R5, hta⟩
        have C4 := C3.turn hta hne
        have ht5 := ht4.tr hta
        have H := hide (unhide HG2).symm
        clear F2 HG2 C3 R4 ht4 hta ho2 hs4
        have HE := hide ((unhide H).symm.trans (bind_no _ hry))
        clear H
        have C2 := C4.set5 (.slice none 0 0)
        have R2 := R5.new hlo hne (i := 5) (.slice none 0 0)
        have ht2 := ht5.new (g := w.heap.size) (i := 5) (Nat.le_refl _) (.slice none 0 0)
        obtain ⟨y5, g5⟩ : _ ∧ _ := ⟨C4.c5, C4.fz 5⟩
        have C3 := zero_c C2
        obtain ⟨t0, t1, t2, t3, t4, t5⟩ : _ ∧ _ ∧ _ ∧ _ ∧ _ ∧ _ := ⟨C3.c0, C3.c1, C3.c2, C3.c3, C3.c4, C3.c5⟩
        obtain ⟨z0, z1, z2, z3, z4, z5⟩ : _ ∧ _ ∧ _ ∧ _ ∧ _ ∧ _ := ⟨C2.c0, C2.c1, C2.c2, C2.c3, C2.c4, C2.c5⟩
        obtain ⟨f0, f1, f2, f3, f4, f5⟩ : _ ∧ _ ∧ _ ∧ _ ∧ _ ∧ _ := ⟨C2.fz 0, C2.fz 1, C2.fz 2, C2.fz 3, C2.fz 4, C2.fz 5⟩
        clear C2 C3
        go_wp2_with fail
        refine bodyPost_ret (v := .tuple #[aggC zeroCd, .int .i64 7]) (by simp [results, Tryz.results159, go_sem, t0, t1, t2, t3, t4, t5]) rfl ?_
        rw [unhide HE]
        exact ⟨⟨zeroCd, rfl⟩, R2.six hlo hne _ _ _ _ _ _, ht2.six (Nat.le_refl _) _ _ _ _ _ _⟩
      · obtain ⟨k1, k2, k3⟩ := places_expr (by rw [hlen]; exact hq1) hry
        simp only at k1 k2 k3
        subst k1
        rw [hlen] at k3
        have HG3 := hide ((unhide HG2).trans (bind_yes _ hry))
        clear HG2 hry
        refine F2.mono ?_
        rintro e W6 ⟨⟨yo, yl, yc, rfl, ho3⟩, R5, hta⟩
        simp only at ho3 R5
        have C4 := C3.turn hta hne
        have ht5 := ht4.tr hta
        have hox := own_low (i := 5) (own_turn ho2 hta (by omega)) (Nat.lt_succ_self _) (.slice yo yl yc)
        have hoy := own_low (i := 5) (own_mono ho3 (B' := w.heap.size + 1) hs4) (Nat.lt_succ_self _) (.slice yo yl yc)
        have C5 := C4.set5 (.slice yo yl yc)
        have R6 := R5.new hlo hne (i := 5) (.slice yo yl yc)
        have ht6 := ht5.new (g := w.heap.size) (i := 5) (Nat.le_refl _) (.slice yo yl yc)
        obtain ⟨y5, g5⟩ : _ ∧ _ := ⟨C4.c5, C4.fz 5⟩
        clear F2 C3 R4 ht4 hta ho2 ho3 C4 R5 ht5 hs4
        go_wp2_with fail
        clear y5 g5
        generalize W6.setCell ⟨w.heap.size, 5, none⟩ (.slice yo yl yc) = W7 at C5 R6 ht6 hox hoy ⊢
        by_cases hc : (xs.map ktm)[q2]? = some (5, [93])
        · have HC := hide hc
          have HG4 := hide ((unhide HG3).trans (take_yes _ hc))
          clear HG3 hc
          refine (takes_yes G 5 ⟨#[93]⟩ W7 R6 HC).mono ?_
          rintro e W8 ⟨rfl, R7, ht7⟩
          have C6 := C5.turn ht7 hne
          have ht8 := ht6.tr ht7
          have hox' := own_mono (own_six (own_turn hox ht7 (by omega)) (Nat.lt_succ_self _) (.int .i64 3) (.string ⟨#[]⟩) (.slice none 0 0) (.int .i64 h) (.slice xo xl xc) (.slice yo yl yc)) (B' := w.heap.size) (by omega)
          have hoy' := own_mono (own_six (own_turn hoy ht7 (by omega)) (Nat.lt_succ_self _) (.int .i64 3) (.string ⟨#[]⟩) (.slice none 0 0) (.int .i64 h) (.slice xo xl xc) (.slice yo yl yc)) (B' := w.heap.size) (by omega)
          have C7 := C6.six (.int .i64 3) (.string ⟨#[]⟩) (.slice none 0 0) (.int .i64 h) (.slice xo xl xc) (.slice yo yl yc)
          obtain ⟨t0, t1, t2, t3, t4, t5⟩ : _ ∧ _ ∧ _ ∧ _ ∧ _ ∧ _ := ⟨C7.c0, C7.c1, C7.c2, C7.c3, C7.c4, C7.c5⟩
          obtain ⟨z0, z1, z2, z3, z4, z5⟩ : _ ∧ _ ∧ _ ∧ _ ∧ _ ∧ _ := ⟨C6.c0, C6.c1, C6.c2, C6.c3, C6.c4, C6.c5⟩
          obtain ⟨f0, f1, f2, f3, f4, f5⟩ : _ ∧ _ ∧ _ ∧ _ ∧ _ ∧ _ := ⟨C6.fz 0, C6.fz 1, C6.fz 2, C6.fz 3, C6.fz 4, C6.fz 5⟩
          clear C5 R6 ht6 ht7 hox hoy HC C6 C7
          go_wp2_with fail
          refine bodyPost_ret (v := .tuple #[aggC ⟨3, ⟨#[]⟩, none, 0, 0, [], h, xo, xl, xc, cutX x, yo, yl, yc, cutX y⟩, .int .i64 0]) (by simp [results, Tryz.results159, go_sem, t0, t1, t2, t3, t4, t5]) rfl ?_
          rw [unhide HG4]
          exact ⟨⟨⟨3, ⟨#[]⟩, none, 0, 0, [], h, xo, xl, xc, cutX x, yo, yl, yc, cutX y⟩, rfl, ⟨World.ownsRow_nil _ _ _ _, hox', hoy', apart_none _, apart_none _, apart_none _⟩, by rw [cutC, cutA_none]; rfl⟩, R7.six hlo hne _ _ _ _ _ _, ht8.six (Nat.le_refl _) _ _ _ _ _ _⟩
        · have HC := hide hc
          have H := hide (unhide HG3).symm
          clear HG3 hc
          refine (takes_no G 5 ⟨#[93]⟩ W7 R6 HC).mono ?_
          rintro e W8 ⟨rfl, hb8⟩
          have C6 := C5.on hb8
          have R2 := R6.on hb8
          have ht2 := ht6.go hb8
          have HE := hide ((unhide H).symm.trans (take_no _ (unhide HC)))
          have C7 := zero_c C6
          obtain ⟨t0, t1, t2, t3, t4, t5⟩ : _ ∧ _ ∧ _ ∧ _ ∧ _ ∧ _ := ⟨C7.c0, C7.c1, C7.c2, C7.c3, C7.c4, C7.c5⟩
          obtain ⟨z0, z1, z2, z3, z4, z5⟩ : _ ∧ _ ∧ _ ∧ _ ∧ _ ∧ _ := ⟨C6.c0, C6.c1, C6.c2, C6.c3, C6.c4, C6.c5⟩
          obtain ⟨f0, f1, f2, f3, f4, f5⟩ : _ ∧ _ ∧ _ ∧ _ ∧ _ ∧ _ := ⟨C6.fz 0, C6.fz 1, C6.fz 2, C6.fz 3, C6.fz 4, C6.fz 5⟩
          clear C5 R6 ht6 hox hoy HC C6 C7 H
          go_wp2_with fail
          refine bodyPost_ret (v := .tuple #[aggC zeroCd, .int .i64 7]) (by simp [results, Tryz.results159, go_sem, t0, t1, t2, t3, t4, t5]) rfl ?_
          rw [unhide HE]
          exact ⟨⟨zeroCd, rfl⟩, R2.six hlo hne _ _ _ _ _ _, ht2.six (Nat.le_refl _) _ _ _ _ _ _⟩
end Go.Proofs.YtcjnhhbcleljmaaGreatDoor.Sb
namespace Go.Proofs.YtcjnhhbcleljmaaGreatDoor.Sb
open Go.RowKit
open V
open Ex (RowO LiesO flatO liesO_own)

abbrev zC : Obj := .cells #[.int .i64 0, .string ⟨#[]⟩, .slice none 0 0, .int .i64 0, .slice none 0 0, .slice none 0 0] 83
theorem Cd.Own.turn {c : Cd} {w w' : World} {b B : Nat} {v : Value} (h : c.Own w B v) (ht : Turns b w w') (hb : b < B) : c.Own w' B v := ⟨own_turn h.t ht hb, own_turn h.x ht hb, own_turn h.y ht hb, h.ta, h.xa, h.ya⟩
theorem Cd.Own.mono {c : Cd} {w : World} {B B' : Nat} {v : Value} (h : c.Own w B v) (hB : B' ≤ B) : c.Own w B' v := ⟨own_mono h.t hB, own_mono h.x hB, own_mono h.y hB, h.ta, h.xa, h.ya⟩
theorem Cd.Own.six {c : Cd} {w : World} {B g : Nat} {v : Value} (h : c.Own w B v) (hg : g < B) (x0 x1 x2 x3 x4 x5 : Value) : c.Own (Sb.six w g x0 x1 x2 x3 x4 x5) B v := ⟨own_six h.t hg _ _ _ _ _ _, own_six h.x hg _ _ _ _ _ _, own_six h.y hg _ _ _ _ _ _, h.ta, h.xa, h.ya⟩
theorem cond_guard {ks : List Kt} {p : Nat} (h : ks[p]? = some (5, [91])) : condR (ks.drop p) p = guardR (ks.drop (p + 1)) (p + 1) := by
  unfold condR
  rw [if_neg (isR_not (fun e => by rw [h] at e; exact absurd (Option.some.inj e) (by decide))), if_pos (isR_yes h), take_yes _ h]
  rfl
theorem cond_not {ks : List Kt} {p : Nat} (h : ks[p]? = some (1, wordNot)) : condR (ks.drop p) p = bindR atomR (fun a => pureR (2, a, 0, [], [])) (ks.drop (p + 1)) (p + 1) := by
  unfold condR
  rw [if_pos (isR_yes h), take_yes _ h]
theorem cond_has {ks : List Kt} {p : Nat} (h : ks[p]? ≠ some (5, [91])) (h' : ks[p]? ≠ some (1, wordNot)) : condR (ks.drop p) p = bindR atomR (fun a => pureR (1, a, 0, [], [])) (ks.drop p) p := by
  unfold condR
  rw [if_neg (isR_not h'), if_neg (isR_not h)]
set_option maxHeartbeats 8000000 in
set_option maxRecDepth 100000 in
theorem cond_guard_any {w0 : World} {a : Option Addr} {n c : Nat} {xs : List Tm} (G : Sg w0 a n c xs) {b p : Nat} (r : Except (Option Nat) (Cp × List Kt × Nat)) (w : World) (R : Rdr w0 w b a n c p) (H : Hid (condR ((xs.map ktm).drop p) p = r)) (HC : Hid ((xs.map ktm)[p]? = some (5, [91]))) :
    Calls Tryz.prog 103 #[.pointer (some ⟨b, 0, none⟩)] w fun e w' => CondRes w0 w b a n c r e w' := by
  have hblt := R.lt
  have hne : w.heap.size ≠ b := fun e => by omega
  have hlo : w0.heap.size ≤ w.heap.size := R.bel.size
  have hb0 := below_new w zC
  have C0 := CB.new (v0 := .int .i64 0) (v1 := .string ⟨#[]⟩) (v2 := .slice none 0 0) (v3 := .int .i64 0) (v4 := .slice none 0 0) (v5 := .slice none 0 0) w
  have R0 := R.on hb0
  have ht0 := Turns.of (b := b) hb0
  have hs0 : (w.alloc zC).heap.size = w.heap.size + 1 := by simp
  have HR := hide ((cond_guard (unhide HC)).symm.trans (unhide H))
  clear hb0 R H
  go_enter Tryz.func103, Tryz.ntmps103
  go_wp2_with fail
  generalize w.alloc zC = W1 at C0 R0 ht0 hs0 ⊢
  refine (takes_yes G 5 ⟨#[91]⟩ W1 R0 HC).mono ?_
  rintro e W2 ⟨rfl, R2, hta⟩
  have C2 := C0.turn hta hne
  have ht2 := ht0.tr hta
  have hs2 : w.heap.size + 1 ≤ W2.heap.size := by have := hta.size; omega
  clear C0 R0 ht0 hta hs0 HC
  go_wp2_with fail
  refine (guard_any G r W2 R2 HR).mono ?_
  rintro e W3 hres
  rcases r with (_ | q) | ⟨v, rest, q⟩
  · obtain ⟨⟨d, rfl⟩, ⟨q, R3⟩, hta⟩ := hres
    have C3 := C2.turn hta hne
    have ht3 := ht2.tr hta
    have C4 := C3.six (.int .i64 d.k) (.string d.n) (.slice d.a d.m d.mc) (.int .i64 d.h) (.slice d.la d.ll d.lc) (.slice d.ra d.rl d.rc)
    obtain ⟨t0, t1, t2, t3, t4, t5⟩ : _ ∧ _ ∧ _ ∧ _ ∧ _ ∧ _ := ⟨C4.c0, C4.c1, C4.c2, C4.c3, C4.c4, C4.c5⟩
    obtain ⟨z0, z1, z2, z3, z4, z5⟩ : _ ∧ _ ∧ _ ∧ _ ∧ _ ∧ _ := ⟨C3.c0, C3.c1, C3.c2, C3.c3, C3.c4, C3.c5⟩
    obtain ⟨f0, f1, f2, f3, f4, f5⟩ : _ ∧ _ ∧ _ ∧ _ ∧ _ ∧ _ := ⟨C3.fz 0, C3.fz 1, C3.fz 2, C3.fz 3, C3.fz 4, C3.fz 5⟩
    clear C2 R2 ht2 hta C3 C4
    go_wp2_with fail
    refine bodyPost_ret (v := .tuple #[aggC d, .int .i64 2]) (by simp [results, Tryz.results103, go_sem, t0, t1, t2, t3, t4, t5]) rfl ?_
    exact ⟨⟨d, rfl⟩, ⟨q, R3.six hlo hne _ _ _ _ _ _⟩, ht3.six (Nat.le_refl _) _ _ _ _ _ _⟩
  · obtain ⟨⟨d, rfl⟩, R3, hta⟩ := hres
    have C3 := C2.turn hta hne
    have ht3 := ht2.tr hta
    have C4 := C3.six (.int .i64 d.k) (.string d.n) (.slice d.a d.m d.mc) (.int .i64 d.h) (.slice d.la d.ll d.lc) (.slice d.ra d.rl d.rc)
    obtain ⟨t0, t1, t2, t3, t4, t5⟩ : _ ∧ _ ∧ _ ∧ _ ∧ _ ∧ _ := ⟨C4.c0, C4.c1, C4.c2, C4.c3, C4.c4, C4.c5⟩
    obtain ⟨z0, z1, z2, z3, z4, z5⟩ : _ ∧ _ ∧ _ ∧ _ ∧ _ ∧ _ := ⟨C3.c0, C3.c1, C3.c2, C3.c3, C3.c4, C3.c5⟩
    obtain ⟨f0, f1, f2, f3, f4, f5⟩ : _ ∧ _ ∧ _ ∧ _ ∧ _ ∧ _ := ⟨C3.fz 0, C3.fz 1, C3.fz 2, C3.fz 3, C3.fz 4, C3.fz 5⟩
    clear C2 R2 ht2 hta C3 C4
    go_wp2_with fail
    refine bodyPost_ret (v := .tuple #[aggC d, .int .i64 7]) (by simp [results, Tryz.results103, go_sem, t0, t1, t2, t3, t4, t5]) rfl ?_
    exact ⟨⟨d, rfl⟩, R3.six hlo hne _ _ _ _ _ _, ht3.six (Nat.le_refl _) _ _ _ _ _ _⟩
  · obtain ⟨⟨d, rfl, ho, hpl⟩, R3, hta⟩ := hres
    have C3 := C2.turn hta hne
    have ht3 := ht2.tr hta
    have ho2 := ((ho.mono hs2).six (g := w.heap.size) (Nat.lt_succ_self _) (.int .i64 d.k) (.string d.n) (.slice d.a d.m d.mc) (.int .i64 d.h) (.slice d.la d.ll d.lc) (.slice d.ra d.rl d.rc)).mono (B' := w.heap.size) (by omega)
    have C4 := C3.six (.int .i64 d.k) (.string d.n) (.slice d.a d.m d.mc) (.int .i64 d.h) (.slice d.la d.ll d.lc) (.slice d.ra d.rl d.rc)
    obtain ⟨t0, t1, t2, t3, t4, t5⟩ : _ ∧ _ ∧ _ ∧ _ ∧ _ ∧ _ := ⟨C4.c0, C4.c1, C4.c2, C4.c3, C4.c4, C4.c5⟩
    obtain ⟨z0, z1, z2, z3, z4, z5⟩ : _ ∧ _ ∧ _ ∧ _ ∧ _ ∧ _ := ⟨C3.c0, C3.c1, C3.c2, C3.c3, C3.c4, C3.c5⟩
    obtain ⟨f0, f1, f2, f3, f4, f5⟩ : _ ∧ _ ∧ _ ∧ _ ∧ _ ∧ _ := ⟨C3.fz 0, C3.fz 1, C3.fz 2, C3.fz 3, C3.fz 4, C3.fz 5⟩
    clear C2 R2 ht2 hta C3 C4 ho
    go_wp2_with fail
    refine bodyPost_ret (v := .tuple #[aggC d, .int .i64 0]) (by simp [results, Tryz.results103, go_sem, t0, t1, t2, t3, t4, t5]) rfl ?_
    exact ⟨⟨d, rfl, ho2, hpl⟩, R3.six hlo hne _ _ _ _ _ _, ht3.six (Nat.le_refl _) _ _ _ _ _ _⟩
end Go.Proofs.YtcjnhhbcleljmaaGreatDoor.Sb
namespace Go.Proofs.YtcjnhhbcleljmaaGreatDoor.Sb
open Go.RowKit
open V
open Ex (RowO LiesO flatO liesO_own)

theorem atom_bind_no {ks : List Kt} {p e : Nat} {k : Int} (h : readAt (ks.drop p) p = .error e) : bindR atomR (fun a => pureR ((k, a, 0, [], []) : Cp)) (ks.drop p) p = .error (some e) := bind_no _ (atomR_no h)
theorem atom_bind_yes {ks : List Kt} {p : Nat} {x : At × Nat} {k : Int} (h : readAt (ks.drop p) p = .ok x) : bindR atomR (fun a => pureR ((k, a, 0, [], []) : Cp)) (ks.drop p) p = .ok ((k, x.1, 0, [], []), ks.drop x.2, x.2) := bind_yes _ (atomR_yes h)
set_option maxHeartbeats 8000000 in
set_option maxRecDepth 100000 in
theorem cond_not_any {w0 : World} {a : Option Addr} {n c : Nat} {xs : List Tm} (G : Sg w0 a n c xs) {b p : Nat} (r : Except (Option Nat) (Cp × List Kt × Nat)) (w : World) (R : Rdr w0 w b a n c p) (H : Hid (condR ((xs.map ktm).drop p) p = r)) (HC : Hid ((xs.map ktm)[p]? = some (1, wordNot))) :
    Calls Tryz.prog 103 #[.pointer (some ⟨b, 0, none⟩)] w fun e w' => CondRes w0 w b a n c r e w' := by
  have hblt := R.lt
  have hne : w.heap.size ≠ b := fun e => by omega
  have hlo : w0.heap.size ≤ w.heap.size := R.bel.size
  have hb0 := below_new w zC
  have C0 := CB.new (v0 := .int .i64 0) (v1 := .string ⟨#[]⟩) (v2 := .slice none 0 0) (v3 := .int .i64 0) (v4 := .slice none 0 0) (v5 := .slice none 0 0) w
  have R0 := R.on hb0
  have ht0 := Turns.of (b := b) hb0
  have hs0 : (w.alloc zC).heap.size = w.heap.size + 1 := by simp
  have HR := hide ((cond_not (unhide HC)).symm.trans (unhide H))
  have HB : Hid ((xs.map ktm)[p]? ≠ some (5, [91])) := hide (fun e => by rw [unhide HC] at e; exact absurd (Option.some.inj e) (by decide))
  clear hb0 R H
  obtain ⟨ra, hra⟩ : ∃ ra, readAt ((xs.map ktm).drop (p + 1)) (p + 1) = ra := ⟨_, rfl⟩
  go_enter Tryz.func103, Tryz.ntmps103
  go_wp2_with fail
  generalize w.alloc zC = W1 at C0 R0 ht0 hs0 ⊢
  refine (takes_no G 5 ⟨#[91]⟩ W1 R0 HB).mono ?_
  rintro e W2 ⟨rfl, hb2⟩
  have C2' := C0.on hb2
  have C2 := C2'.set0 (.int .i64 1)
  have R2 := (R0.on hb2).new hlo hne (i := 0) (.int .i64 1)
  have ht2 := (ht0.go hb2).new (g := w.heap.size) (i := 0) (Nat.le_refl _) (.int .i64 1)
  have hs2 : w.heap.size + 1 ≤ (W2.setCell ⟨w.heap.size, 0, none⟩ (.int .i64 1)).heap.size := by have := hb2.size; simp; omega
  obtain ⟨y0, g0⟩ : _ ∧ _ := ⟨C2'.c0, C2'.fz 0⟩
  clear C0 R0 ht0 hs0 C2' hb2
  go_wp2_with fail
  clear y0 g0
  generalize W2.setCell ⟨w.heap.size, 0, none⟩ (.int .i64 1) = W3 at C2 R2 ht2 hs2 ⊢
  refine (takes_yes G 1 ⟨#[110, 111, 116]⟩ W3 R2 HC).mono ?_
  rintro e W4 ⟨rfl, R3, hta⟩
  have C3' := C2.turn hta hne
  have C3 := C3'.set0 (.int .i64 2)
  have R4 := R3.new hlo hne (i := 0) (.int .i64 2)
  have ht4 := (ht2.tr hta).new (g := w.heap.size) (i := 0) (Nat.le_refl _) (.int .i64 2)
  have hs4 : w.heap.size + 1 ≤ (W4.setCell ⟨w.heap.size, 0, none⟩ (.int .i64 2)).heap.size := by have := hta.size; simp; omega
  obtain ⟨y0, g0⟩ : _ ∧ _ := ⟨C3'.c0, C3'.fz 0⟩
  clear C2 R2 ht2 hs2 hta C3' R3
  go_wp2_with fail
  clear y0 g0
  generalize W4.setCell ⟨w.heap.size, 0, none⟩ (.int .i64 2) = W5 at C3 R4 ht4 hs4 ⊢
  have F := atom_any G ra W5 R4 (hide hra)
  rcases ra with q | x
  · have HE := hide ((unhide HR).symm.trans (atom_bind_no hra))
    clear HR hra
    refine F.mono ?_
    rintro e W6 ⟨rfl, R5, hta⟩
    have C4 := C3.turn hta hne
    have ht5 := ht4.tr hta
    clear F
    have C5 := (C4.set1 (.string ⟨#[]⟩)).set2 (.slice none 0 0)
    have R6 := (R5.new hlo hne (i := 1) (.string ⟨#[]⟩)).new hlo hne (i := 2) (.slice none 0 0)
    have ht6 := (ht5.new (g := w.heap.size) (i := 1) (Nat.le_refl _) (.string ⟨#[]⟩)).new (g := w.heap.size) (i := 2) (Nat.le_refl _) (.slice none 0 0)
    have C6 := C5.six (.int .i64 2) (.string ⟨#[]⟩) (.slice none 0 0) (.int .i64 0) (.slice none 0 0) (.slice none 0 0)
    obtain ⟨t0, t1, t2, t3, t4, t5⟩ : _ ∧ _ ∧ _ ∧ _ ∧ _ ∧ _ := ⟨C6.c0, C6.c1, C6.c2, C6.c3, C6.c4, C6.c5⟩
    obtain ⟨z0, z1, z2, z3, z4, z5⟩ : _ ∧ _ ∧ _ ∧ _ ∧ _ ∧ _ := ⟨C5.c0, C5.c1, C5.c2, C5.c3, C5.c4, C5.c5⟩
    obtain ⟨u1, u2⟩ : _ ∧ _ := ⟨C4.c1, C4.c2⟩
    obtain ⟨f0, f1, f2, f3, f4, f5⟩ : _ ∧ _ ∧ _ ∧ _ ∧ _ ∧ _ := ⟨C5.fz 0, C5.fz 1, C5.fz 2, C5.fz 3, C5.fz 4, C5.fz 5⟩
    obtain ⟨j1, j2⟩ : _ ∧ _ := ⟨C4.fz 1, C4.fz 2⟩
    clear C3 R4 ht4 hta C4 C5 C6 R5 ht5
    go_wp2_with fail
    refine bodyPost_ret (v := .tuple #[aggC ⟨2, ⟨#[]⟩, none, 0, 0, [], 0, none, 0, 0, [], none, 0, 0, []⟩, .int .i64 7]) (by simp [results, Tryz.results103, go_sem, t0, t1, t2, t3, t4, t5]) rfl ?_
    rw [unhide HE]
    exact ⟨⟨_, rfl⟩, R6.six hlo hne _ _ _ _ _ _, ht6.six (Nat.le_refl _) _ _ _ _ _ _⟩
  · have HE := hide ((unhide HR).symm.trans (atom_bind_yes hra))
    clear HR hra
    refine F.mono ?_
    rintro e W6 ⟨⟨s, ao, m, mc, rfl, hs, ho⟩, R5, hta⟩
    have C4 := C3.turn hta hne
    have ht5 := ht4.tr hta
    have ho1 := own_low (i := 2) (own_low (i := 1) (own_mono ho hs4) (Nat.lt_succ_self _) (.string s)) (Nat.lt_succ_self _) (.slice ao m mc)
    have HS := hide hs
    clear F ho hs
    have C5 := (C4.set1 (.string s)).set2 (.slice ao m mc)
    have R6 := (R5.new hlo hne (i := 1) (.string s)).new hlo hne (i := 2) (.slice ao m mc)
    have ht6 := (ht5.new (g := w.heap.size) (i := 1) (Nat.le_refl _) (.string s)).new (g := w.heap.size) (i := 2) (Nat.le_refl _) (.slice ao m mc)
    have C6 := C5.six (.int .i64 2) (.string s) (.slice ao m mc) (.int .i64 0) (.slice none 0 0) (.slice none 0 0)
    have ho2 := own_mono (own_six ho1 (Nat.lt_succ_self _) (.int .i64 2) (.string s) (.slice ao m mc) (.int .i64 0) (.slice none 0 0) (.slice none 0 0)) (B' := w.heap.size) (by omega)
    clear ho1
    obtain ⟨t0, t1, t2, t3, t4, t5⟩ : _ ∧ _ ∧ _ ∧ _ ∧ _ ∧ _ := ⟨C6.c0, C6.c1, C6.c2, C6.c3, C6.c4, C6.c5⟩
    obtain ⟨z0, z1, z2, z3, z4, z5⟩ : _ ∧ _ ∧ _ ∧ _ ∧ _ ∧ _ := ⟨C5.c0, C5.c1, C5.c2, C5.c3, C5.c4, C5.c5⟩
    obtain ⟨u1, u2⟩ : _ ∧ _ := ⟨C4.c1, C4.c2⟩
    obtain ⟨f0, f1, f2, f3, f4, f5⟩ : _ ∧ _ ∧ _ ∧ _ ∧ _ ∧ _ := ⟨C5.fz 0, C5.fz 1, C5.fz 2, C5.fz 3, C5.fz 4, C5.fz 5⟩
    obtain ⟨j1, j2⟩ : _ ∧ _ := ⟨C4.fz 1, C4.fz 2⟩
    clear C3 R4 ht4 hta C4 C5 C6 R5 ht5
    go_wp2_with fail
    refine bodyPost_ret (v := .tuple #[aggC ⟨2, s, ao, m, mc, (cutA x.1).2, 0, none, 0, 0, [], none, 0, 0, []⟩, .int .i64 0]) (by simp [results, Tryz.results103, go_sem, t0, t1, t2, t3, t4, t5]) rfl ?_
    rw [unhide HE]
    exact ⟨⟨⟨2, s, ao, m, mc, (cutA x.1).2, 0, none, 0, 0, [], none, 0, 0, []⟩, rfl, ⟨ho2, World.ownsRow_nil _ _ _ _, World.ownsRow_nil _ _ _ _, apart_none _, apart_none _, apart_none _⟩, by rw [cutC, cutX_nil]; simp only [Cd.pl]; rw [unhide HS]⟩, R6.six hlo hne _ _ _ _ _ _, ht6.six (Nat.le_refl _) _ _ _ _ _ _⟩
set_option maxHeartbeats 8000000 in
set_option maxRecDepth 100000 in
theorem cond_has_any {w0 : World} {a : Option Addr} {n c : Nat} {xs : List Tm} (G : Sg w0 a n c xs) {b p : Nat} (r : Except (Option Nat) (Cp × List Kt × Nat)) (w : World) (R : Rdr w0 w b a n c p) (H : Hid (condR ((xs.map ktm).drop p) p = r)) (HC : Hid ((xs.map ktm)[p]? ≠ some (5, [91]))) (HN : Hid ((xs.map ktm)[p]? ≠ some (1, wordNot))) :
    Calls Tryz.prog 103 #[.pointer (some ⟨b, 0, none⟩)] w fun e w' => CondRes w0 w b a n c r e w' := by
  have hblt := R.lt
  have hne : w.heap.size ≠ b := fun e => by omega
  have hlo : w0.heap.size ≤ w.heap.size := R.bel.size
  have hb0 := below_new w zC
  have C0 := CB.new (v0 := .int .i64 0) (v1 := .string ⟨#[]⟩) (v2 := .slice none 0 0) (v3 := .int .i64 0) (v4 := .slice none 0 0) (v5 := .slice none 0 0) w
  have R0 := R.on hb0
  have ht0 := Turns.of (b := b) hb0
  have hs0 : (w.alloc zC).heap.size = w.heap.size + 1 := by simp
  have HR := hide ((cond_has (unhide HC) (unhide HN)).symm.trans (unhide H))
  clear hb0 R H
  obtain ⟨ra, hra⟩ : ∃ ra, readAt ((xs.map ktm).drop (p)) (p) = ra := ⟨_, rfl⟩
  go_enter Tryz.func103, Tryz.ntmps103
  go_wp2_with fail
  generalize w.alloc zC = W1 at C0 R0 ht0 hs0 ⊢
  refine (takes_no G 5 ⟨#[91]⟩ W1 R0 HC).mono ?_
  rintro e W2 ⟨rfl, hb2⟩
  have C2' := C0.on hb2
  have C2 := C2'.set0 (.int .i64 1)
  have R2 := (R0.on hb2).new hlo hne (i := 0) (.int .i64 1)
  have ht2 := (ht0.go hb2).new (g := w.heap.size) (i := 0) (Nat.le_refl _) (.int .i64 1)
  have hs2 : w.heap.size + 1 ≤ (W2.setCell ⟨w.heap.size, 0, none⟩ (.int .i64 1)).heap.size := by have := hb2.size; simp; omega
  obtain ⟨y0, g0⟩ : _ ∧ _ := ⟨C2'.c0, C2'.fz 0⟩
  clear C0 R0 ht0 hs0 C2' hb2
  go_wp2_with fail
  clear y0 g0
  generalize W2.setCell ⟨w.heap.size, 0, none⟩ (.int .i64 1) = W3 at C2 R2 ht2 hs2 ⊢
  refine (takes_no G 1 ⟨#[110, 111, 116]⟩ W3 R2 HN).mono ?_
  rintro e W5 ⟨rfl, hb4⟩
  have C3 := C2.on hb4
  have R4 := R2.on hb4
  have ht4 := ht2.go hb4
  have hs4 : w.heap.size + 1 ≤ W5.heap.size := Nat.le_trans hs2 hb4.size
  clear C2 R2 ht2 hs2 hb4
  go_wp2_with fail
  have F := atom_any G ra W5 R4 (hide hra)
  rcases ra with q | x
  · have HE := hide ((unhide HR).symm.trans (atom_bind_no hra))
    clear HR hra
    refine F.mono ?_
    rintro e W6 ⟨rfl, R5, hta⟩
    have C4 := C3.turn hta hne
    have ht5 := ht4.tr hta
    clear F
    have C5 := (C4.set1 (.string ⟨#[]⟩)).set2 (.slice none 0 0)
    have R6 := (R5.new hlo hne (i := 1) (.string ⟨#[]⟩)).new hlo hne (i := 2) (.slice none 0 0)
    have ht6 := (ht5.new (g := w.heap.size) (i := 1) (Nat.le_refl _) (.string ⟨#[]⟩)).new (g := w.heap.size) (i := 2) (Nat.le_refl _) (.slice none 0 0)
    have C6 := C5.six (.int .i64 1) (.string ⟨#[]⟩) (.slice none 0 0) (.int .i64 0) (.slice none 0 0) (.slice none 0 0)
    obtain ⟨t0, t1, t2, t3, t4, t5⟩ : _ ∧ _ ∧ _ ∧ _ ∧ _ ∧ _ := ⟨C6.c0, C6.c1, C6.c2, C6.c3, C6.c4, C6.c5⟩
    obtain ⟨z0, z1, z2, z3, z4, z5⟩ : _ ∧ _ ∧ _ ∧ _ ∧ _ ∧ _ := ⟨C5.c0, C5.c1, C5.c2, C5.c3, C5.c4, C5.c5⟩
    obtain ⟨u1, u2⟩ : _ ∧ _ := ⟨C4.c1, C4.c2⟩
    obtain ⟨f0, f1, f2, f3, f4, f5⟩ : _ ∧ _ ∧ _ ∧ _ ∧ _ ∧ _ := ⟨C5.fz 0, C5.fz 1, C5.fz 2, C5.fz 3, C5.fz 4, C5.fz 5⟩
    obtain ⟨j1, j2⟩ : _ ∧ _ := ⟨C4.fz 1, C4.fz 2⟩
    clear C3 R4 ht4 hta C4 C5 C6 R5 ht5
    go_wp2_with fail
    refine bodyPost_ret (v := .tuple #[aggC ⟨1, ⟨#[]⟩, none, 0, 0, [], 0, none, 0, 0, [], none, 0, 0, []⟩, .int .i64 7]) (by simp [results, Tryz.results103, go_sem, t0, t1, t2, t3, t4, t5]) rfl ?_
    rw [unhide HE]
    exact ⟨⟨_, rfl⟩, R6.six hlo hne _ _ _ _ _ _, ht6.six (Nat.le_refl _) _ _ _ _ _ _⟩
  · have HE := hide ((unhide HR).symm.trans (atom_bind_yes hra))
    clear HR hra
    refine F.mono ?_
    rintro e W6 ⟨⟨s, ao, m, mc, rfl, hs, ho⟩, R5, hta⟩
    have C4 := C3.turn hta hne
    have ht5 := ht4.tr hta
    have ho1 := own_low (i := 2) (own_low (i := 1) (own_mono ho hs4) (Nat.lt_succ_self _) (.string s)) (Nat.lt_succ_self _) (.slice ao m mc)
    have HS := hide hs
    clear F ho hs
    have C5 := (C4.set1 (.string s)).set2 (.slice ao m mc)
    have R6 := (R5.new hlo hne (i := 1) (.string s)).new hlo hne (i := 2) (.slice ao m mc)
    have ht6 := (ht5.new (g := w.heap.size) (i := 1) (Nat.le_refl _) (.string s)).new (g := w.heap.size) (i := 2) (Nat.le_refl _) (.slice ao m mc)
    have C6 := C5.six (.int .i64 1) (.string s) (.slice ao m mc) (.int .i64 0) (.slice none 0 0) (.slice none 0 0)
    have ho2 := own_mono (own_six ho1 (Nat.lt_succ_self _) (.int .i64 1) (.string s) (.slice ao m mc) (.int .i64 0) (.slice none 0 0) (.slice none 0 0)) (B' := w.heap.size) (by omega)
    clear ho1
    obtain ⟨t0, t1, t2, t3, t4, t5⟩ : _ ∧ _ ∧ _ ∧ _ ∧ _ ∧ _ := ⟨C6.c0, C6.c1, C6.c2, C6.c3, C6.c4, C6.c5⟩
    obtain ⟨z0, z1, z2, z3, z4, z5⟩ : _ ∧ _ ∧ _ ∧ _ ∧ _ ∧ _ := ⟨C5.c0, C5.c1, C5.c2, C5.c3, C5.c4, C5.c5⟩
    obtain ⟨u1, u2⟩ : _ ∧ _ := ⟨C4.c1, C4.c2⟩
    obtain ⟨f0, f1, f2, f3, f4, f5⟩ : _ ∧ _ ∧ _ ∧ _ ∧ _ ∧ _ := ⟨C5.fz 0, C5.fz 1, C5.fz 2, C5.fz 3, C5.fz 4, C5.fz 5⟩
    obtain ⟨j1, j2⟩ : _ ∧ _ := ⟨C4.fz 1, C4.fz 2⟩
    clear C3 R4 ht4 hta C4 C5 C6 R5 ht5
    go_wp2_with fail
    refine bodyPost_ret (v := .tuple #[aggC ⟨1, s, ao, m, mc, (cutA x.1).2, 0, none, 0, 0, [], none, 0, 0, []⟩, .int .i64 0]) (by simp [results, Tryz.results103, go_sem, t0, t1, t2, t3, t4, t5]) rfl ?_
    rw [unhide HE]
    exact ⟨⟨⟨1, s, ao, m, mc, (cutA x.1).2, 0, none, 0, 0, [], none, 0, 0, []⟩, rfl, ⟨ho2, World.ownsRow_nil _ _ _ _, World.ownsRow_nil _ _ _ _, apart_none _, apart_none _, apart_none _⟩, by rw [cutC, cutX_nil]; simp only [Cd.pl]; rw [unhide HS]⟩, R6.six hlo hne _ _ _ _ _ _, ht6.six (Nat.le_refl _) _ _ _ _ _ _⟩
/-- What reader.cond answers. -/
theorem cond_any {w0 : World} {a : Option Addr} {n c : Nat} {xs : List Tm} (G : Sg w0 a n c xs) {b p : Nat} (r : Except (Option Nat) (Cp × List Kt × Nat)) (w : World) (R : Rdr w0 w b a n c p) (H : Hid (condR ((xs.map ktm).drop p) p = r)) :
    Calls Tryz.prog 103 #[.pointer (some ⟨b, 0, none⟩)] w fun e w' => CondRes w0 w b a n c r e w' := by
  by_cases h : (xs.map ktm)[p]? = some (5, [91])
  · exact cond_guard_any G r w R H (hide h)
  · by_cases h' : (xs.map ktm)[p]? = some (1, wordNot)
    · exact cond_not_any G r w R H (hide h')
    · exact cond_has_any G r w R H (hide h) (hide h')
end Go.Proofs.YtcjnhhbcleljmaaGreatDoor.Sb
namespace Go.Proofs.YtcjnhhbcleljmaaGreatDoor.Sb
open Go.RowKit
open V
open Ex (RowO LiesO flatO liesO_own)

theorem OwnC.turn {w w' : World} {b B : Nat} {v : Value} {cs : List Cd} (h : OwnC w B v cs) (ht : Turns b w w') (hb : b < B) : OwnC w' B v cs := ⟨own_turn h.row ht hb, fun c hc => (h.all c hc).turn ht hb⟩
/-- One more of the call's own, beside the others. -/
theorem OwnC.add {wr w1' w2 : World} {B : Nat} {v v' : Value} {cs : List Cd} {y : Cd} {u : Value} (HE : OwnC w1' B v cs) (hv : ∀ m, v.ownBlock = some m → m < wr.heap.size) (hB : B ≤ wr.heap.size) (ho : y.Own w1' wr.heap.size u)
    (hr : w2.ownsRow B 83 6 v' (cs.length + 1) (flatCs (cs ++ [y]))) (hg : w1'.grownBy w2 v.ownBlock) (h5 : v'.ownBlock = v.ownBlock ∨ v'.ownBlock = some w1'.heap.size) : OwnC w2 B v' (cs ++ [y]) := by
  refine ⟨by rw [List.length_append]; exact hr, fun e he => ?_⟩
  rcases List.mem_append.1 he with h | h
  · exact (HE.all e h).beside hg h5
  · rw [List.mem_singleton.1 h]
    exact Cd.Own.beside (v := v) ⟨own_mono ho.t hB, own_mono ho.x hB, own_mono ho.y hB, apart_less (s := wr.heap.size) (fun m hm => (ho.t.lt m hm).1) hv, apart_less (s := wr.heap.size) (fun m hm => (ho.x.lt m hm).1) hv, apart_less (s := wr.heap.size) (fun m hm => (ho.y.lt m hm).1) hv⟩ hg h5
/-- What rules.list of conditions answers. -/
def ConsRes (w0 w : World) (b : Nat) (a : Option Addr) (n c : Nat) (r : Except (Option Nat) (List Cp × List Kt × Nat)) (e : Ending) (w' : World) : Prop := match r with
  | .ok x => (∃ (ao : Option Addr) (mc : Nat) (cs : List Cd), e = .returned (.tuple #[.slice ao cs.length mc, .int .i64 0]) ∧ OwnC w' w.heap.size (.slice ao cs.length mc) cs ∧ cs.map Cd.pl = x.1.map cutC) ∧ Rdr w0 w' b a n c x.2.2 ∧ Turns b w w'
  | .error (some q) => e = .returned (.tuple #[.slice none 0 0, .int .i64 7]) ∧ Rdr w0 w' b a n c q ∧ Turns b w w'
  | .error none => e = .returned (.tuple #[.slice none 0 0, .int .i64 2]) ∧ (∃ q, Rdr w0 w' b a n c q) ∧ Turns b w w'
set_option maxHeartbeats 4000000 in
set_option maxRecDepth 100000 in
theorem conds_list {w0 : World} {a : Option Addr} {n c : Nat} {xs : List Tm} (G : Sg w0 a n c xs) {b p : Nat} (r : Except (Option Nat) (List Cp × List Kt × Nat)) (w : World) (R : Rdr w0 w b a n c p) (H : Hid (allR condR ((xs.map ktm).drop p) p = r)) :
    Calls Tryz.prog 102 #[.pointer (some ⟨b, 0, none⟩), .func (.func 103) #[.pointer (some ⟨b, 0, none⟩)] #[]] w fun e w' => ConsRes w0 w b a n c r e w' := by
  have hlen := G.len
  have hblt := R.lt
  go_enter Tryz.func102, Tryz.ntmps102
  go_wp2_with fail
  go_loopw [6] (fun v wr => ∃ (ao : Option Addr) (mc : Nat) (es : List Cd) (acc : List Cp) (q : Nat), v = .slice ao es.length mc ∧ OwnC wr w.heap.size (.slice ao es.length mc) es ∧ Hid (es.map Cd.pl = acc.map cutC) ∧ es.length ≤ q ∧ Hid (addM acc (allR condR ((xs.map ktm).drop q) q) = r) ∧ Rdr w0 wr b a n c q ∧ Turns b w wr) (fun _ wr => n - placeOf b wr)
  case atStart => exact ⟨none, 0, [], [], p, rfl, ⟨World.ownsRow_nil _ _ _ _, fun e he => by cases he⟩, hide rfl, Nat.zero_le _, hide (by rw [addM_nil]; exact unhide H), R, Turns.refl _ _⟩
  case round =>
    obtain ⟨ao, mc, es, acc, q, rfl, HE, HM, hq, HR, R1, ht⟩ := hrel
    clear R H
    obtain ⟨rx, hrx⟩ : ∃ rx, condR ((xs.map ktm).drop q) q = rx := ⟨_, rfl⟩
    have F := hide (cond_any G rx wr R1 (hide hrx))
    have hqn := R1.le
    rcases rx with (_ | q') | ⟨v, rest, q'⟩
    · have HE' := hide ((unhide HR).symm.trans (congrArg (addM acc) (all_no one_cond hrx)))
      clear HR hrx HE HM
      go_wp2_with fail
      refine (unhide F).mono ?_
      rintro e w1 ⟨⟨d, rfl⟩, R2, ht2⟩
      have hbx := below_new w1 (bxC d)
      have R3 := (fun ⟨q, h⟩ => ⟨q, Rdr.on h hbx⟩ : (∃ q, Rdr w0 w1 b a n c q) → ∃ q, Rdr w0 (w1.alloc (bxC d)) b a n c q) R2
      have ht3 := (ht.tr ht2).go hbx
      clear F R1 R2
      go_wp2_with fail
      refine bodyPost_ret (v := .tuple #[.slice none 0 0, .int .i64 2]) (by simp [results, Tryz.results102, go_sem]) rfl ?_
      rw [unhide HE']
      exact ⟨rfl, R3, ht3⟩
    · have HE' := hide ((unhide HR).symm.trans (congrArg (addM acc) (all_no one_cond hrx)))
      clear HR hrx HE HM
      go_wp2_with fail
      refine (unhide F).mono ?_
      rintro e w1 ⟨⟨d, rfl⟩, R2, ht2⟩
      have hbx := below_new w1 (bxC d)
      have R3 := R2.on hbx
      have ht3 := (ht.tr ht2).go hbx
      clear F R1 R2
      go_wp2_with fail
      refine bodyPost_ret (v := .tuple #[.slice none 0 0, .int .i64 7]) (by simp [results, Tryz.results102, go_sem]) rfl ?_
      rw [unhide HE']
      exact ⟨rfl, R3, ht3⟩
    · obtain ⟨g1, g2, g3⟩ := places_condR (by rw [hlen]; exact hqn) hrx
      have g4 := one_cond.mv (by rw [hlen]; exact hqn) hrx
      simp only at g1 g2 g3 g4
      subst g1
      rw [hlen] at g3
      have HX := hide hrx
      have HMM := hide (fun (d : Cd) (h : d.pl = cutC v) => show (es ++ [d]).map Cd.pl = (acc ++ [v]).map cutC by rw [List.map_append, List.map_append, unhide HM, List.map_singleton, List.map_singleton, h])
      clear hrx HM
      go_wp2_with fail
      refine (unhide F).mono ?_
      rintro e w1 ⟨⟨d, rfl, ho, hpl⟩, R2, ht2⟩
      clear F
      simp only at hpl R2
      have HE1 := HE.turn ht2 (by omega)
      have hwr : w.heap.size ≤ wr.heap.size := ht.size
      have hv : ∀ k, (Value.slice ao es.length mc).ownBlock = some k → k < wr.heap.size := fun k hk => (HE.row.lt k hk).2
      clear HE
      have hb2 : Below w1.heap.size w1 ((w1.alloc (bxC d)).alloc (bxC d)) := ((Below.refl _ _).alloc (Nat.le_refl _) _).alloc (by simp) _
      have HE2' := HE1.on hb2
      have ho' := ho.on hb2
      have hs2 : ((w1.alloc (bxC d)).alloc (bxC d)).heap.size = w1.heap.size + 2 := by simp
      have hnew : Hid (((w1.alloc (bxC d)).alloc (bxC d)).heap[w1.heap.size + 1]? = some (bxC d)) := hide (by
        have := heap_alloc_new (w1.alloc (bxC d)) (bxC d)
        rwa [show (w1.alloc (bxC d)).heap.size = w1.heap.size + 1 by simp] at this)
      have hown := HE2'.row
      have hsz : w.heap.size ≤ ((w1.alloc (bxC d)).alloc (bxC d)).heap.size := by have := ht2.size; omega
      have HS2 := hide hs2
      clear hs2
      have hfew := G.few
      go_wp2_with (at_builtin; refine app_cw rfl _ _ rfl w.heap.size (.slice ao es.length mc) es d (w1.heap.size + 1) rfl rfl hown hnew (by omega) hsz ?_)
      intro v' w2 hr hg h5
      have h5' : v'.ownBlock = (Value.slice ao es.length mc).ownBlock ∨ v'.ownBlock = some ((w1.alloc (bxC d)).alloc (bxC d)).heap.size := by rw [unhide HS2]; exact h5
      have HE2 := HE2'.add (wr := wr) (y := d) hv hwr ho' hr hg h5'
      have hM := unhide HMM d hpl
      have R3 := (R2.on hb2).grow hg (fun k hk => (hown.lt k hk).1) hblt
      have ht3 := ((ht.tr ht2).go hb2).grow hg (fun k hk => (hown.lt k hk).1)
      obtain ⟨ao2, mc2, rfl⟩ := own_slice hr
      have hlE : Hid ((es ++ [d]).length = es.length + 1) := hide (by rw [List.length_append, List.length_singleton])
      generalize es ++ [d] = es' at HE2 hM hlE
      have HM' := hide hM
      rw [show es.length + 1 = es'.length from (unhide hlE).symm] at HE2 ⊢
      have hq' : es'.length ≤ q' := by rw [unhide hlE]; omega
      clear hM hr hg h5 h5' hown hnew HE1 ho ho' HE2' hb2 HMM R2 hlE hv hsz HS2
      by_cases hc : (xs.map ktm)[q']? = some (5, [44])
      · have HC := hide hc
        have hql : q' < n := by
          have := (List.getElem?_eq_some_iff.1 hc).1
          rw [hlen] at this; exact this
        have HR' := hide ((all_more one_cond acc (by rw [hlen]; exact hqn) (unhide HX) hc).symm.trans (unhide HR))
        clear hc HR HX
        go_wp2_with fail
        refine (takes_yes G 5 ⟨#[44]⟩ w2 R3 HC).mono ?_
        rintro e w3 ⟨rfl, R4, ht4⟩
        have HE3 := HE2.turn ht4 hblt
        have ht5 := ht3.tr ht4
        have hp1 := R1.place
        have hp4 := R4.place
        clear R1 R3 HE2 HC
        go_wp2_with fail
        go_roundw
        case rel => exact ⟨ao2, mc2, es', acc ++ [v], q' + 1, rfl, HE3, HM', by omega, HR', R4, ht5⟩
        case measure => rw [hp1, hp4]; omega
      · have HC := hide hc
        have HR' := hide ((congrArg (addM acc) (all_one one_cond (unhide HX) hc)).symm.trans (unhide HR))
        clear hc HR HX R1
        go_wp2_with fail
        refine (takes_no G 5 ⟨#[44]⟩ w2 R3 HC).mono ?_
        rintro e w3 ⟨rfl, hb3⟩
        have HE3 := HE2.on hb3
        have R4 := R3.on hb3
        clear R3 HE2 HC
        go_wp2_with fail
        refine bodyPost_ret (v := .tuple #[.slice ao2 es'.length mc2, .int .i64 0]) (by simp [results, Tryz.results102, go_sem]) rfl ?_
        rw [← unhide HR']
        exact ⟨⟨ao2, mc2, es', rfl, HE3, unhide HM'⟩, R4, ht3.go hb3⟩
end Go.Proofs.YtcjnhhbcleljmaaGreatDoor.Sb
namespace Go.Proofs.YtcjnhhbcleljmaaGreatDoor.Sb
open Go.RowKit
open V
open Ex (RowO LiesO flatO liesO_own)

/-- An act's box, none of its cells frozen. -/
structure ZB (W : World) (g : Nat) (v0 v1 v2 v3 : Value) : Prop where
  at_ : W.heap[g]? = some (.cells #[v0, v1, v2, v3] 86 (0, 0))
namespace ZB
variable {W W' : World} {g b : Nat} {v0 v1 v2 v3 : Value}
theorem lt (h : ZB W g v0 v1 v2 v3) : g < W.heap.size := (Array.getElem?_eq_some_iff.1 h.at_).1
theorem new (w : World) : ZB (w.alloc (.cells #[v0, v1, v2, v3] 86)) w.heap.size v0 v1 v2 v3 := ⟨heap_alloc_new w _⟩
theorem on (h : ZB W g v0 v1 v2 v3) (hb : Below W.heap.size W W') : ZB W' g v0 v1 v2 v3 := ⟨by rw [hb.block g h.lt]; exact h.at_⟩
theorem turn (h : ZB W g v0 v1 v2 v3) (ht : Turns b W W') (hne : g ≠ b) : ZB W' g v0 v1 v2 v3 := ⟨(ht.block g h.lt (fun e => hne (Option.some.inj e))).trans h.at_⟩
theorem c0 (h : ZB W g v0 v1 v2 v3) : W.cell? ⟨g, 0, none⟩ = some v0 := by rw [Lib.cell_of_heap h.at_]; rfl
theorem c1 (h : ZB W g v0 v1 v2 v3) : W.cell? ⟨g, 1, none⟩ = some v1 := by rw [Lib.cell_of_heap h.at_]; rfl
theorem c2 (h : ZB W g v0 v1 v2 v3) : W.cell? ⟨g, 2, none⟩ = some v2 := by rw [Lib.cell_of_heap h.at_]; rfl
theorem c3 (h : ZB W g v0 v1 v2 v3) : W.cell? ⟨g, 3, none⟩ = some v3 := by rw [Lib.cell_of_heap h.at_]; rfl
theorem fz (h : ZB W g v0 v1 v2 v3) (i : Nat) : W.frozen? ⟨g, i, none⟩ = false := Lib.frozen_of_heap h.at_ i
theorem set0 (h : ZB W g v0 v1 v2 v3) (x : Value) : ZB (W.setCell ⟨g, 0, none⟩ x) g x v1 v2 v3 := ⟨by rw [Lib.heap_setCell_same h.at_]; rfl⟩
theorem set1 (h : ZB W g v0 v1 v2 v3) (x : Value) : ZB (W.setCell ⟨g, 1, none⟩ x) g v0 x v2 v3 := ⟨by rw [Lib.heap_setCell_same h.at_]; rfl⟩
theorem set2 (h : ZB W g v0 v1 v2 v3) (x : Value) : ZB (W.setCell ⟨g, 2, none⟩ x) g v0 v1 x v3 := ⟨by rw [Lib.heap_setCell_same h.at_]; rfl⟩
theorem set3 (h : ZB W g v0 v1 v2 v3) (x : Value) : ZB (W.setCell ⟨g, 3, none⟩ x) g v0 v1 v2 x := ⟨by rw [Lib.heap_setCell_same h.at_]; rfl⟩
end ZB
/-- All four cells written over. -/
abbrev four (W : World) (g : Nat) (x0 x1 x2 x3 : Value) : World := (((W.setCell ⟨g, 0, none⟩ x0).setCell ⟨g, 1, none⟩ x1).setCell ⟨g, 2, none⟩ x2).setCell ⟨g, 3, none⟩ x3
theorem four_z {W : World} {g : Nat} {v0 v1 v2 v3 : Value} (h : ZB W g v0 v1 v2 v3) (x0 x1 x2 x3 : Value) : ZB (four W g x0 x1 x2 x3) g x0 x1 x2 x3 := (((h.set0 x0).set1 x1).set2 x2).set3 x3
theorem four_r {w0 W : World} {b : Nat} {a : Option Addr} {n c p : Nat} (R : Rdr w0 W b a n c p) {g : Nat} (hg : w0.heap.size ≤ g) (hne : g ≠ b) (x0 x1 x2 x3 : Value) : Rdr w0 (four W g x0 x1 x2 x3) b a n c p :=
  (((R.new hg hne x0).new hg hne x1).new hg hne x2).new hg hne x3
theorem four_t {b : Nat} {w W : World} (h : Turns b w W) {g : Nat} (hg : w.heap.size ≤ g) (x0 x1 x2 x3 : Value) : Turns b w (four W g x0 x1 x2 x3) :=
  (((h.new hg x0).new hg x1).new hg x2).new hg x3
theorem own_four {w : World} {B g : Nat} {e : TypeId} {s : Nat} {v : Value} {n : Nat} {xs : List Value} (h : w.ownsRow B e s v n xs) (hg : g < B) (x0 x1 x2 x3 : Value) : (four w g x0 x1 x2 x3).ownsRow B e s v n xs :=
  own_low (own_low (own_low (own_low h hg x0) hg x1) hg x2) hg x3
theorem OwnE.low {w : World} {B g i : Nat} {v : Value} {es : List Ez} (h : OwnE w B v es) (hg : g < B) (u : Value) : OwnE (w.setCell ⟨g, i, none⟩ u) B v es := ⟨own_low h.row hg u, fun e he => ⟨own_low (h.all e he).o hg u, (h.all e he).a⟩⟩
theorem OwnE.four {w : World} {B g : Nat} {v : Value} {es : List Ez} (h : OwnE w B v es) (hg : g < B) (x0 x1 x2 x3 : Value) : OwnE (Sb.four w g x0 x1 x2 x3) B v es := (((h.low hg x0).low hg x1).low hg x2).low hg x3
/-- An act, as it is handed back. -/
abbrev aggZ (z : Az) : Value := .agg #[.int .i64 z.k, .string z.n, .slice z.a z.m z.mc, .int .i64 z.wh]
abbrev zZ : Obj := .cells #[.int .i64 0, .string ⟨#[]⟩, .slice none 0 0, .int .i64 0] 86
/-- What the reader of an act answers; its rows are memory of their own. -/
def ActRes (w0 w : World) (b : Nat) (a : Option Addr) (n c : Nat) (r : Except (Option Nat) (Ap × List Kt × Nat)) (e : Ending) (w' : World) : Prop := match r with
  | .ok x => (∃ z : Az, e = .returned (.tuple #[aggZ z, .int .i64 0]) ∧ z.Own w' w.heap.size (.slice none 0 0) ∧ z.m = z.es.length ∧ z.pl = cutT x.1) ∧ Rdr w0 w' b a n c x.2.2 ∧ Turns b w w'
  | .error (some q) => (∃ z : Az, e = .returned (.tuple #[aggZ z, .int .i64 7])) ∧ Rdr w0 w' b a n c q ∧ Turns b w w'
  | .error none => (∃ z : Az, e = .returned (.tuple #[aggZ z, .int .i64 2])) ∧ (∃ q, Rdr w0 w' b a n c q) ∧ Turns b w w'
theorem act_drop {ks : List Kt} {p : Nat} (h : ks[p]? = some (1, wordDrop)) : actR (ks.drop p) p = bindR whichR (fun n => pureR (2, [], [], n)) (ks.drop (p + 1)) (p + 1) := by
  unfold actR
  rw [if_pos (isR_yes h), take_yes _ h]
theorem act_plus {ks : List Kt} {p : Nat} (h : ks[p]? ≠ some (1, wordDrop)) : actR (ks.drop p) p = bindR (takeR (5, [43])) (fun _ => bindR nameR (fun n => bindR argsR (fun l => pureR (1, n, l, 0)))) (ks.drop p) p := by
  unfold actR
  rw [if_neg (isR_not h)]
theorem args_none {ks : List Kt} {q : Nat} (h : ks[q]? ≠ some (5, [40])) : argsR (ks.drop q) q = .ok ([], ks.drop q, q) := by
  unfold argsR
  rw [if_neg (isR_not h)]
theorem args_some {ks : List Kt} {q : Nat} (h : ks[q]? = some (5, [40])) : argsR (ks.drop q) q = bindR (allR exprR) (fun l => bindR (takeR (5, [41])) (fun _ => pureR l)) (ks.drop (q + 1)) (q + 1) := by
  unfold argsR
  rw [if_pos (isR_yes h), take_yes _ h]
  rfl
set_option maxHeartbeats 8000000 in
set_option maxRecDepth 100000 in
theorem act_drop_any {w0 : World} {a : Option Addr} {n c : Nat} {xs : List Tm} (G : Sg w0 a n c xs) {b p : Nat} (r : Except (Option Nat) (Ap × List Kt × Nat)) (w : World) (R : Rdr w0 w b a n c p) (H : Hid (actR ((xs.map ktm).drop p) p = r)) (HC : Hid ((xs.map ktm)[p]? = some (1, wordDrop))) :
    Calls Tryz.prog 105 #[.pointer (some ⟨b, 0, none⟩)] w fun e w' => ActRes w0 w b a n c r e w' := by
  have hlen := G.len
  have hblt := R.lt
  have hne : w.heap.size ≠ b := fun e => by omega
  have hlo : w0.heap.size ≤ w.heap.size := R.bel.size
  have hpn := R.le
  have hb0 := below_new w zZ
  have C0 := ZB.new (v0 := .int .i64 0) (v1 := .string ⟨#[]⟩) (v2 := .slice none 0 0) (v3 := .int .i64 0) w
  have R0 := R.on hb0
  have ht0 := Turns.of (b := b) hb0
  have hs0 : (w.alloc zZ).heap.size = w.heap.size + 1 := by simp
  have HR := hide ((act_drop (unhide HC)).symm.trans (unhide H))
  clear hb0 R H
  obtain ⟨rv, hrv⟩ : ∃ rv, kN (xs.map ktm) (p + 1) = rv := ⟨_, rfl⟩
  go_enter Tryz.func105, Tryz.ntmps105
  go_wp2_with fail
  generalize w.alloc zZ = W1 at C0 R0 ht0 hs0 ⊢
  refine (takes_yes G 1 ⟨#[100, 114, 111, 112]⟩ W1 R0 HC).mono ?_
  rintro e W2 ⟨rfl, R2', hta⟩
  have C2' := C0.turn hta hne
  have C2 := C2'.set0 (.int .i64 2)
  have R2 := R2'.new hlo hne (i := 0) (.int .i64 2)
  have ht2 := (ht0.tr hta).new (g := w.heap.size) (i := 0) (Nat.le_refl _) (.int .i64 2)
  obtain ⟨y0, g0⟩ : _ ∧ _ := ⟨C2'.c0, C2'.fz 0⟩
  clear C0 R0 ht0 hs0 C2' hta R2' HC
  go_wp2_with fail
  clear y0 g0
  generalize W2.setCell ⟨w.heap.size, 0, none⟩ (.int .i64 2) = W3 at C2 R2 ht2 ⊢
  cases rv with
  | none =>
    have HE := hide ((unhide HR).symm.trans (bind_no _ (whichR_no hrv)))
    have F := number_no G 0 W3 R2 (hide hrv)
    clear HR hrv
    refine F.mono ?_
    rintro e W4 ⟨rfl, hb4⟩
    have C3 := C2.on hb4
    have R3 := R2.on hb4
    have ht3 := ht2.go hb4
    clear F C2 R2 ht2 hb4
    have C4 := C3.set3 (.int .i64 0)
    have R4 := R3.new hlo hne (i := 3) (.int .i64 0)
    have ht4 := ht3.new (g := w.heap.size) (i := 3) (Nat.le_refl _) (.int .i64 0)
    obtain ⟨y3, g3⟩ : _ ∧ _ := ⟨C3.c3, C3.fz 3⟩
    have CF := four_z C4 (.int .i64 2) (.string ⟨#[]⟩) (.slice none 0 0) (.int .i64 0)
    have RF := four_r R4 hlo hne (.int .i64 2) (.string ⟨#[]⟩) (.slice none 0 0) (.int .i64 0)
    have tF := four_t ht4 (Nat.le_refl w.heap.size) (.int .i64 2) (.string ⟨#[]⟩) (.slice none 0 0) (.int .i64 0)
    obtain ⟨t0, t1, t2, t3⟩ : _ ∧ _ ∧ _ ∧ _ := ⟨CF.c0, CF.c1, CF.c2, CF.c3⟩
    obtain ⟨z0, z1, z2, z3⟩ : _ ∧ _ ∧ _ ∧ _ := ⟨C4.c0, C4.c1, C4.c2, C4.c3⟩
    obtain ⟨f0, f1, f2, f3⟩ : _ ∧ _ ∧ _ ∧ _ := ⟨C4.fz 0, C4.fz 1, C4.fz 2, C4.fz 3⟩
    clear CF
    go_wp2_with fail
    refine bodyPost_ret (v := .tuple #[aggZ ⟨2, ⟨#[]⟩, none, 0, 0, [], 0⟩, .int .i64 7]) (by simp [results, Tryz.results105, go_sem, t0, t1, t2, t3]) rfl ?_
    rw [unhide HE]
    exact ⟨⟨⟨2, ⟨#[]⟩, none, 0, 0, [], 0⟩, rfl⟩, RF, tF⟩
  | some v =>
    by_cases hv : v < 0
    · have HE := hide ((unhide HR).symm.trans (bind_no _ (whichR_low hrv hv)))
      have F := number_low G 0 v W3 R2 (hide hrv) hv
      clear HR hrv
      refine F.mono ?_
      rintro e W4 ⟨rfl, hb4⟩
      have C3 := C2.on hb4
      have R3 := R2.on hb4
      have ht3 := ht2.go hb4
      clear F C2 R2 ht2 hb4
      have C4 := C3.set3 (.int .i64 0)
      have R4 := R3.new hlo hne (i := 3) (.int .i64 0)
      have ht4 := ht3.new (g := w.heap.size) (i := 3) (Nat.le_refl _) (.int .i64 0)
      obtain ⟨y3, g3⟩ : _ ∧ _ := ⟨C3.c3, C3.fz 3⟩
      have CF := four_z C4 (.int .i64 2) (.string ⟨#[]⟩) (.slice none 0 0) (.int .i64 0)
      have RF := four_r R4 hlo hne (.int .i64 2) (.string ⟨#[]⟩) (.slice none 0 0) (.int .i64 0)
      have tF := four_t ht4 (Nat.le_refl w.heap.size) (.int .i64 2) (.string ⟨#[]⟩) (.slice none 0 0) (.int .i64 0)
      obtain ⟨t0, t1, t2, t3⟩ : _ ∧ _ ∧ _ ∧ _ := ⟨CF.c0, CF.c1, CF.c2, CF.c3⟩
      obtain ⟨z0, z1, z2, z3⟩ : _ ∧ _ ∧ _ ∧ _ := ⟨C4.c0, C4.c1, C4.c2, C4.c3⟩
      obtain ⟨f0, f1, f2, f3⟩ : _ ∧ _ ∧ _ ∧ _ := ⟨C4.fz 0, C4.fz 1, C4.fz 2, C4.fz 3⟩
      clear CF
      go_wp2_with fail
      refine bodyPost_ret (v := .tuple #[aggZ ⟨2, ⟨#[]⟩, none, 0, 0, [], 0⟩, .int .i64 7]) (by simp [results, Tryz.results105, go_sem, t0, t1, t2, t3]) rfl ?_
      rw [unhide HE]
      exact ⟨⟨⟨2, ⟨#[]⟩, none, 0, 0, [], 0⟩, rfl⟩, RF, tF⟩
    · have HE := hide ((unhide HR).symm.trans (bind_yes _ (whichR_yes hrv hv)))
      have F := number_yes G 0 v W3 R2 (hide hrv) hv
      clear HR hrv
      refine F.mono ?_
      rintro e W4 ⟨rfl, R3, hta⟩
      have C3 := C2.turn hta hne
      have ht3 := ht2.tr hta
      clear F C2 R2 ht2 hta
      have C4 := C3.set3 (.int .i64 v)
      have R4 := R3.new hlo hne (i := 3) (.int .i64 v)
      have ht4 := ht3.new (g := w.heap.size) (i := 3) (Nat.le_refl _) (.int .i64 v)
      obtain ⟨y3, g3⟩ : _ ∧ _ := ⟨C3.c3, C3.fz 3⟩
      have CF := four_z C4 (.int .i64 2) (.string ⟨#[]⟩) (.slice none 0 0) (.int .i64 v)
      have RF := four_r R4 hlo hne (.int .i64 2) (.string ⟨#[]⟩) (.slice none 0 0) (.int .i64 v)
      have tF := four_t ht4 (Nat.le_refl w.heap.size) (.int .i64 2) (.string ⟨#[]⟩) (.slice none 0 0) (.int .i64 v)
      obtain ⟨t0, t1, t2, t3⟩ : _ ∧ _ ∧ _ ∧ _ := ⟨CF.c0, CF.c1, CF.c2, CF.c3⟩
      obtain ⟨z0, z1, z2, z3⟩ : _ ∧ _ ∧ _ ∧ _ := ⟨C4.c0, C4.c1, C4.c2, C4.c3⟩
      obtain ⟨f0, f1, f2, f3⟩ : _ ∧ _ ∧ _ ∧ _ := ⟨C4.fz 0, C4.fz 1, C4.fz 2, C4.fz 3⟩
      clear CF
      go_wp2_with fail
      refine bodyPost_ret (v := .tuple #[aggZ ⟨2, ⟨#[]⟩, none, 0, 0, [], v⟩, .int .i64 0]) (by simp [results, Tryz.results105, go_sem, t0, t1, t2, t3]) rfl ?_
      rw [unhide HE]
      exact ⟨⟨⟨2, ⟨#[]⟩, none, 0, 0, [], v⟩, rfl, ⟨⟨World.ownsRow_nil _ _ _ _, fun e he => by cases he⟩, apart_none _, fun e he => by cases he⟩, rfl, rfl⟩, RF, tF⟩
end Go.Proofs.YtcjnhhbcleljmaaGreatDoor.Sb
namespace Go.Proofs.YtcjnhhbcleljmaaGreatDoor.Sb
open Go.RowKit
open V
open Ex (RowO LiesO flatO liesO_own)

set_option maxHeartbeats 8000000 in
set_option maxRecDepth 100000 in
theorem act_plus_any {w0 : World} {a : Option Addr} {n c : Nat} {xs : List Tm} (G : Sg w0 a n c xs) {b p : Nat} (r : Except (Option Nat) (Ap × List Kt × Nat)) (w : World) (R : Rdr w0 w b a n c p) (H : Hid (actR ((xs.map ktm).drop p) p = r)) (HD : Hid ((xs.map ktm)[p]? ≠ some (1, wordDrop))) :
    Calls Tryz.prog 105 #[.pointer (some ⟨b, 0, none⟩)] w fun e w' => ActRes w0 w b a n c r e w' := by
  have hlen := G.len
  have hblt := R.lt
  have hne : w.heap.size ≠ b := fun e => by omega
  have hlo : w0.heap.size ≤ w.heap.size := R.bel.size
  have hpn := R.le
  have hb0 := below_new w zZ
  have C0 := ZB.new (v0 := .int .i64 0) (v1 := .string ⟨#[]⟩) (v2 := .slice none 0 0) (v3 := .int .i64 0) w
  have R0 := R.on hb0
  have ht0 := Turns.of (b := b) hb0
  have hs0 : (w.alloc zZ).heap.size = w.heap.size + 1 := by simp
  have HR := hide ((act_plus (unhide HD)).symm.trans (unhide H))
  clear hb0 R H
  go_enter Tryz.func105, Tryz.ntmps105
  go_wp2_with fail
  generalize w.alloc zZ = W1 at C0 R0 ht0 hs0 ⊢
  refine (takes_no G 1 ⟨#[100, 114, 111, 112]⟩ W1 R0 HD).mono ?_
  rintro e W2 ⟨rfl, hb2⟩
  have C2 := C0.on hb2
  have R2 := R0.on hb2
  have ht2 := ht0.go hb2
  have hs2 : w.heap.size + 1 ≤ W2.heap.size := by have := hb2.size; omega
  clear C0 R0 ht0 hs0 hb2 HD
  go_wp2_with fail
  by_cases hpl : (xs.map ktm)[p]? = some (5, [43])
  case neg =>
    have HE := hide ((unhide HR).symm.trans (take_no _ hpl))
    refine (takes_no G 5 ⟨#[43]⟩ W2 R2 (hide hpl)).mono ?_
    rintro e W3 ⟨rfl, hb3⟩
    have C3 := C2.on hb3
    have R3 := R2.on hb3
    have ht3 := ht2.go hb3
    clear C2 R2 ht2 hb3 HR hpl hs2
    have CF := four_z C3 (.int .i64 0) (.string ⟨#[]⟩) (.slice none 0 0) (.int .i64 0)
    have RF := four_r R3 hlo hne (.int .i64 0) (.string ⟨#[]⟩) (.slice none 0 0) (.int .i64 0)
    have tF := four_t ht3 (Nat.le_refl w.heap.size) (.int .i64 0) (.string ⟨#[]⟩) (.slice none 0 0) (.int .i64 0)
    obtain ⟨t0, t1, t2, t3⟩ : _ ∧ _ ∧ _ ∧ _ := ⟨CF.c0, CF.c1, CF.c2, CF.c3⟩
    obtain ⟨z0, z1, z2, z3⟩ : _ ∧ _ ∧ _ ∧ _ := ⟨C3.c0, C3.c1, C3.c2, C3.c3⟩
    obtain ⟨f0, f1, f2, f3⟩ : _ ∧ _ ∧ _ ∧ _ := ⟨C3.fz 0, C3.fz 1, C3.fz 2, C3.fz 3⟩
    clear CF
    go_wp2_with fail
    refine bodyPost_ret (v := .tuple #[aggZ ⟨0, ⟨#[]⟩, none, 0, 0, [], 0⟩, .int .i64 7]) (by simp [results, Tryz.results105, go_sem, t0, t1, t2, t3]) rfl ?_
    rw [unhide HE]
    exact ⟨⟨⟨0, ⟨#[]⟩, none, 0, 0, [], 0⟩, rfl⟩, RF, tF⟩
  have hpl' : p < n := by
    have := (List.getElem?_eq_some_iff.1 hpl).1
    rw [hlen] at this; exact this
  have HR2 := hide ((unhide HR).symm.trans (take_yes _ hpl))
  refine (takes_yes G 5 ⟨#[43]⟩ W2 R2 (hide hpl)).mono ?_
  rintro e W3 ⟨rfl, R3', hta⟩
  have C3' := C2.turn hta hne
  have C3 := C3'.set0 (.int .i64 1)
  have R3 := R3'.new hlo hne (i := 0) (.int .i64 1)
  have ht3 := (ht2.tr hta).new (g := w.heap.size) (i := 0) (Nat.le_refl _) (.int .i64 1)
  have hs3 : w.heap.size + 1 ≤ (W3.setCell ⟨w.heap.size, 0, none⟩ (.int .i64 1)).heap.size := by have := hta.size; simp; omega
  obtain ⟨y0, g0⟩ : _ ∧ _ := ⟨C3'.c0, C3'.fz 0⟩
  clear C2 R2 ht2 hs2 hta C3' R3' HR hpl
  go_wp2_with fail
  clear y0 g0
  generalize W3.setCell ⟨w.heap.size, 0, none⟩ (.int .i64 1) = W4 at C3 R3 ht3 hs3 ⊢
  cases hn : nameK (xs.map ktm) (p + 1) with
  | false =>
    have HE := hide ((unhide HR2).trans (bind_no _ (nameR_no hn)))
    have F := name_no G W4 R3 (hide hn)
    clear HR2 hn
    refine F.mono ?_
    rintro e W5 ⟨rfl, hb5⟩
    have C4' := C3.on hb5
    have C4 := C4'.set1 (.string ⟨#[]⟩)
    have R4 := (R3.on hb5).new hlo hne (i := 1) (.string ⟨#[]⟩)
    have ht4 := (ht3.go hb5).new (g := w.heap.size) (i := 1) (Nat.le_refl _) (.string ⟨#[]⟩)
    obtain ⟨y1, g1⟩ : _ ∧ _ := ⟨C4'.c1, C4'.fz 1⟩
    clear F C3 R3 ht3 hb5 C4' hs3
    have CF := four_z C4 (.int .i64 1) (.string ⟨#[]⟩) (.slice none 0 0) (.int .i64 0)
    have RF := four_r R4 hlo hne (.int .i64 1) (.string ⟨#[]⟩) (.slice none 0 0) (.int .i64 0)
    have tF := four_t ht4 (Nat.le_refl w.heap.size) (.int .i64 1) (.string ⟨#[]⟩) (.slice none 0 0) (.int .i64 0)
    obtain ⟨t0, t1, t2, t3⟩ : _ ∧ _ ∧ _ ∧ _ := ⟨CF.c0, CF.c1, CF.c2, CF.c3⟩
    obtain ⟨z0, z1, z2, z3⟩ : _ ∧ _ ∧ _ ∧ _ := ⟨C4.c0, C4.c1, C4.c2, C4.c3⟩
    obtain ⟨f0, f1, f2, f3⟩ : _ ∧ _ ∧ _ ∧ _ := ⟨C4.fz 0, C4.fz 1, C4.fz 2, C4.fz 3⟩
    clear CF
    go_wp2_with fail
    refine bodyPost_ret (v := .tuple #[aggZ ⟨1, ⟨#[]⟩, none, 0, 0, [], 0⟩, .int .i64 7]) (by simp [results, Tryz.results105, go_sem, t0, t1, t2, t3]) rfl ?_
    rw [unhide HE]
    exact ⟨⟨⟨1, ⟨#[]⟩, none, 0, 0, [], 0⟩, rfl⟩, RF, tF⟩
  | true =>
    obtain ⟨x, hx⟩ : ∃ x, xs[p + 1]? = some x := by
      obtain ⟨t, h0, _⟩ := nameK_yes hn
      rw [List.getElem?_map] at h0
      cases hx : xs[p + 1]? with
      | none => rw [hx] at h0; cases h0
      | some x => exact ⟨x, rfl⟩
    have hk1 : (ktm x).1 = 1 ∧ nameB (ktm x).2 = true := by
      obtain ⟨t, h0, h1⟩ := nameK_yes hn
      rw [List.getElem?_map, hx] at h0
      cases h0
      exact h1
    have hq1 : p + 1 < n := by
      have := (List.getElem?_eq_some_iff.1 hx).1
      rw [← List.length_map (f := ktm), hlen] at this
      exact this
    have HR3 := hide ((unhide HR2).trans (bind_yes _ (nameR_yes (t := ktm x) (by rw [List.getElem?_map, hx]; rfl) hk1.1 hk1.2)))
    have F := name_yes G x W4 R3 (hide hx) (hide hn)
    clear HR2 hn hx hk1
    refine F.mono ?_
    rintro e W5 ⟨rfl, R4', hta⟩
    have C4' := C3.turn hta hne
    have C4 := C4'.set1 (.string x.2.1)
    have R4 := R4'.new hlo hne (i := 1) (.string x.2.1)
    have ht4 := (ht3.tr hta).new (g := w.heap.size) (i := 1) (Nat.le_refl _) (.string x.2.1)
    have hs4 : w.heap.size + 1 ≤ (W5.setCell ⟨w.heap.size, 1, none⟩ (.string x.2.1)).heap.size := by have := hta.size; simp; omega
    obtain ⟨y1, g1⟩ : _ ∧ _ := ⟨C4'.c1, C4'.fz 1⟩
    clear F C3 R3 ht3 hta C4' R4' hs3
    go_wp2_with fail
    clear y1 g1
    generalize W5.setCell ⟨w.heap.size, 1, none⟩ (.string x.2.1) = W6 at C4 R4 ht4 hs4 ⊢
    by_cases ho : (xs.map ktm)[p + 1 + 1]? = some (5, [40])
    case neg =>
      have HE := hide ((unhide HR3).trans (bind_yes _ (args_none ho)))
      refine (takes_no G 5 ⟨#[40]⟩ W6 R4 (hide ho)).mono ?_
      rintro e W7 ⟨rfl, hb7⟩
      have C5 := C4.on hb7
      have R5 := R4.on hb7
      have ht5 := ht4.go hb7
      clear C4 R4 ht4 hb7 HR3 ho hs4
      have CF := four_z C5 (.int .i64 1) (.string x.2.1) (.slice none 0 0) (.int .i64 0)
      have RF := four_r R5 hlo hne (.int .i64 1) (.string x.2.1) (.slice none 0 0) (.int .i64 0)
      have tF := four_t ht5 (Nat.le_refl w.heap.size) (.int .i64 1) (.string x.2.1) (.slice none 0 0) (.int .i64 0)
      obtain ⟨t0, t1, t2, t3⟩ : _ ∧ _ ∧ _ ∧ _ := ⟨CF.c0, CF.c1, CF.c2, CF.c3⟩
      obtain ⟨z0, z1, z2, z3⟩ : _ ∧ _ ∧ _ ∧ _ := ⟨C5.c0, C5.c1, C5.c2, C5.c3⟩
      obtain ⟨f0, f1, f2, f3⟩ : _ ∧ _ ∧ _ ∧ _ := ⟨C5.fz 0, C5.fz 1, C5.fz 2, C5.fz 3⟩
      clear CF
      go_wp2_with fail
      refine bodyPost_ret (v := .tuple #[aggZ ⟨1, x.2.1, none, 0, 0, [], 0⟩, .int .i64 0]) (by simp [results, Tryz.results105, go_sem, t0, t1, t2, t3]) rfl ?_
      rw [unhide HE]
      exact ⟨⟨⟨1, x.2.1, none, 0, 0, [], 0⟩, rfl, ⟨⟨World.ownsRow_nil _ _ _ _, fun e he => by cases he⟩, apart_none _, fun e he => by cases he⟩, rfl, rfl⟩, RF, tF⟩
    have hq2 : p + 1 + 1 < n := by
      have := (List.getElem?_eq_some_iff.1 ho).1
      rw [hlen] at this; exact this
    have HA := hide (args_some ho)
    refine (takes_yes G 5 ⟨#[40]⟩ W6 R4 (hide ho)).mono ?_
    rintro e W7 ⟨rfl, R5, hta⟩
    have C5 := C4.turn hta hne
    have ht5 := ht4.tr hta
    have hs5 : w.heap.size + 1 ≤ W7.heap.size := Nat.le_trans hs4 hta.size
    clear C4 R4 ht4 hta ho hs4
    obtain ⟨rl, hrl⟩ : ∃ rl, allR exprR ((xs.map ktm).drop (p + 1 + 1 + 1)) (p + 1 + 1 + 1) = rl := ⟨_, rfl⟩
    go_wp2_with fail
    have F := args_list G rl W7 R5 (hide hrl)
    rcases rl with (_ | q) | ⟨l, rest, q⟩
    · have HE := hide ((unhide HR3).trans (bind_no _ ((unhide HA).trans (bind_no _ hrl))))
      clear HR3 HA hrl
      refine F.mono ?_
      rintro e W8 ⟨rfl, ⟨q, R6'⟩, hta⟩
      have C6' := C5.turn hta hne
      have C6 := C6'.set2 (.slice none 0 0)
      have R6 := R6'.new hlo hne (i := 2) (.slice none 0 0)
      have ht6 := (ht5.tr hta).new (g := w.heap.size) (i := 2) (Nat.le_refl _) (.slice none 0 0)
      obtain ⟨y2, g2⟩ : _ ∧ _ := ⟨C6'.c2, C6'.fz 2⟩
      clear F C5 R5 ht5 hta C6' R6' hs5
      have CF := four_z C6 (.int .i64 0) (.string ⟨#[]⟩) (.slice none 0 0) (.int .i64 0)
      have RF := four_r R6 hlo hne (.int .i64 0) (.string ⟨#[]⟩) (.slice none 0 0) (.int .i64 0)
      have tF := four_t ht6 (Nat.le_refl w.heap.size) (.int .i64 0) (.string ⟨#[]⟩) (.slice none 0 0) (.int .i64 0)
      obtain ⟨t0, t1, t2, t3⟩ : _ ∧ _ ∧ _ ∧ _ := ⟨CF.c0, CF.c1, CF.c2, CF.c3⟩
      obtain ⟨z0, z1, z2, z3⟩ : _ ∧ _ ∧ _ ∧ _ := ⟨C6.c0, C6.c1, C6.c2, C6.c3⟩
      obtain ⟨f0, f1, f2, f3⟩ : _ ∧ _ ∧ _ ∧ _ := ⟨C6.fz 0, C6.fz 1, C6.fz 2, C6.fz 3⟩
      clear CF
      go_wp2_with fail
      refine bodyPost_ret (v := .tuple #[aggZ ⟨0, ⟨#[]⟩, none, 0, 0, [], 0⟩, .int .i64 2]) (by simp [results, Tryz.results105, go_sem, t0, t1, t2, t3]) rfl ?_
      rw [unhide HE]
      exact ⟨⟨⟨0, ⟨#[]⟩, none, 0, 0, [], 0⟩, rfl⟩, ⟨q, RF⟩, tF⟩
    · have HE := hide ((unhide HR3).trans (bind_no _ ((unhide HA).trans (bind_no _ hrl))))
      clear HR3 HA hrl
      refine F.mono ?_
      rintro e W8 ⟨rfl, R6', hta⟩
      have C6' := C5.turn hta hne
      have C6 := C6'.set2 (.slice none 0 0)
      have R6 := R6'.new hlo hne (i := 2) (.slice none 0 0)
      have ht6 := (ht5.tr hta).new (g := w.heap.size) (i := 2) (Nat.le_refl _) (.slice none 0 0)
      obtain ⟨y2, g2⟩ : _ ∧ _ := ⟨C6'.c2, C6'.fz 2⟩
      clear F C5 R5 ht5 hta C6' R6' hs5
      have CF := four_z C6 (.int .i64 0) (.string ⟨#[]⟩) (.slice none 0 0) (.int .i64 0)
      have RF := four_r R6 hlo hne (.int .i64 0) (.string ⟨#[]⟩) (.slice none 0 0) (.int .i64 0)
      have tF := four_t ht6 (Nat.le_refl w.heap.size) (.int .i64 0) (.string ⟨#[]⟩) (.slice none 0 0) (.int .i64 0)
      obtain ⟨t0, t1, t2, t3⟩ : _ ∧ _ ∧ _ ∧ _ := ⟨CF.c0, CF.c1, CF.c2, CF.c3⟩
      obtain ⟨z0, z1, z2, z3⟩ : _ ∧ _ ∧ _ ∧ _ := ⟨C6.c0, C6.c1, C6.c2, C6.c3⟩
      obtain ⟨f0, f1, f2, f3⟩ : _ ∧ _ ∧ _ ∧ _ := ⟨C6.fz 0, C6.fz 1, C6.fz 2, C6.fz 3⟩
      clear CF
      go_wp2_with fail
      refine bodyPost_ret (v := .tuple #[aggZ ⟨0, ⟨#[]⟩, none, 0, 0, [], 0⟩, .int .i64 7]) (by simp [results, Tryz.results105, go_sem, t0, t1, t2, t3]) rfl ?_
      rw [unhide HE]
      exact ⟨⟨⟨0, ⟨#[]⟩, none, 0, 0, [], 0⟩, rfl⟩, RF, tF⟩
    · obtain ⟨g1, g2, g3⟩ := places_all one_expr (by rw [hlen]; omega) hrl
      simp only at g1 g2 g3
      subst g1
      rw [hlen] at g3
      have HA2 := hide ((unhide HA).trans (bind_yes _ hrl))
      clear HA hrl
      refine F.mono ?_
      rintro e W8 ⟨⟨ao, mc, es, rfl, hE, hpx⟩, R6', hta⟩
      simp only at hpx R6'
      have C6' := C5.turn hta hne
      have C6 := C6'.set2 (.slice ao es.length mc)
      have R6 := R6'.new hlo hne (i := 2) (.slice ao es.length mc)
      have ht6 := (ht5.tr hta).new (g := w.heap.size) (i := 2) (Nat.le_refl _) (.slice ao es.length mc)
      have hE6 := (hE.mono hs5).low (g := w.heap.size) (i := 2) (Nat.lt_succ_self _) (.slice ao es.length mc)
      obtain ⟨y2, g2'⟩ : _ ∧ _ := ⟨C6'.c2, C6'.fz 2⟩
      have HP := hide hpx
      clear F C5 R5 ht5 hta C6' R6' hs5 hE hpx
      go_wp2_with fail
      clear y2 g2'
      generalize W8.setCell ⟨w.heap.size, 2, none⟩ (.slice ao es.length mc) = W9 at C6 R6 ht6 hE6 ⊢
      by_cases hc : (xs.map ktm)[q]? = some (5, [41])
      · have HE := hide ((unhide HR3).trans (bind_yes _ ((unhide HA2).trans (take_yes _ hc))))
        refine (takes_yes G 5 ⟨#[41]⟩ W9 R6 (hide hc)).mono ?_
        rintro e W10 ⟨rfl, R7, hta⟩
        have C7 := C6.turn hta hne
        have ht7 := ht6.tr hta
        have hE7 := hE6.turn hta (by omega)
        clear C6 R6 ht6 hE6 hta hc HR3 HA2
        have CF := four_z C7 (.int .i64 1) (.string x.2.1) (.slice ao es.length mc) (.int .i64 0)
        have RF := four_r R7 hlo hne (.int .i64 1) (.string x.2.1) (.slice ao es.length mc) (.int .i64 0)
        have tF := four_t ht7 (Nat.le_refl w.heap.size) (.int .i64 1) (.string x.2.1) (.slice ao es.length mc) (.int .i64 0)
        have hE8 := (hE7.four (g := w.heap.size) (Nat.lt_succ_self _) (.int .i64 1) (.string x.2.1) (.slice ao es.length mc) (.int .i64 0)).mono (B' := w.heap.size) (by omega)
        obtain ⟨t0, t1, t2, t3⟩ : _ ∧ _ ∧ _ ∧ _ := ⟨CF.c0, CF.c1, CF.c2, CF.c3⟩
        obtain ⟨z0, z1, z2, z3⟩ : _ ∧ _ ∧ _ ∧ _ := ⟨C7.c0, C7.c1, C7.c2, C7.c3⟩
        obtain ⟨f0, f1, f2, f3⟩ : _ ∧ _ ∧ _ ∧ _ := ⟨C7.fz 0, C7.fz 1, C7.fz 2, C7.fz 3⟩
        clear CF hE7
        go_wp2_with fail
        refine bodyPost_ret (v := .tuple #[aggZ ⟨1, x.2.1, ao, es.length, mc, es, 0⟩, .int .i64 0]) (by simp [results, Tryz.results105, go_sem, t0, t1, t2, t3]) rfl ?_
        rw [unhide HE]
        exact ⟨⟨⟨1, x.2.1, ao, es.length, mc, es, 0⟩, rfl, ⟨hE8, apart_none _, fun e he => apart_none _⟩, rfl, by simp only [Az.pl, cutT]; rw [unhide HP]; rfl⟩, RF, tF⟩
      · have HE := hide ((unhide HR3).trans (bind_no _ ((unhide HA2).trans (take_no _ hc))))
        refine (takes_no G 5 ⟨#[41]⟩ W9 R6 (hide hc)).mono ?_
        rintro e W10 ⟨rfl, hb10⟩
        have C7 := C6.on hb10
        have R7 := R6.on hb10
        have ht7 := ht6.go hb10
        clear C6 R6 ht6 hE6 hb10 hc HR3 HA2
        have CF := four_z C7 (.int .i64 0) (.string ⟨#[]⟩) (.slice none 0 0) (.int .i64 0)
        have RF := four_r R7 hlo hne (.int .i64 0) (.string ⟨#[]⟩) (.slice none 0 0) (.int .i64 0)
        have tF := four_t ht7 (Nat.le_refl w.heap.size) (.int .i64 0) (.string ⟨#[]⟩) (.slice none 0 0) (.int .i64 0)
        obtain ⟨t0, t1, t2, t3⟩ : _ ∧ _ ∧ _ ∧ _ := ⟨CF.c0, CF.c1, CF.c2, CF.c3⟩
        obtain ⟨z0, z1, z2, z3⟩ : _ ∧ _ ∧ _ ∧ _ := ⟨C7.c0, C7.c1, C7.c2, C7.c3⟩
        obtain ⟨f0, f1, f2, f3⟩ : _ ∧ _ ∧ _ ∧ _ := ⟨C7.fz 0, C7.fz 1, C7.fz 2, C7.fz 3⟩
        clear CF
        go_wp2_with fail
        refine bodyPost_ret (v := .tuple #[aggZ ⟨0, ⟨#[]⟩, none, 0, 0, [], 0⟩, .int .i64 7]) (by simp [results, Tryz.results105, go_sem, t0, t1, t2, t3]) rfl ?_
        rw [unhide HE]
        exact ⟨⟨⟨0, ⟨#[]⟩, none, 0, 0, [], 0⟩, rfl⟩, RF, tF⟩
/-- What reader.act answers. -/
theorem act_any {w0 : World} {a : Option Addr} {n c : Nat} {xs : List Tm} (G : Sg w0 a n c xs) {b p : Nat} (r : Except (Option Nat) (Ap × List Kt × Nat)) (w : World) (R : Rdr w0 w b a n c p) (H : Hid (actR ((xs.map ktm).drop p) p = r)) :
    Calls Tryz.prog 105 #[.pointer (some ⟨b, 0, none⟩)] w fun e w' => ActRes w0 w b a n c r e w' := by
  by_cases h : (xs.map ktm)[p]? = some (1, wordDrop)
  · exact act_drop_any G r w R H (hide h)
  · exact act_plus_any G r w R H (hide h)
end Go.Proofs.YtcjnhhbcleljmaaGreatDoor.Sb
namespace Go.Proofs.YtcjnhhbcleljmaaGreatDoor.Sb
open Go.RowKit
open V
open Ex (RowO LiesO flatO liesO_own)

theorem Az.Own.turn {z : Az} {w w' : World} {b B : Nat} {v : Value} (h : z.Own w B v) (ht : Turns b w w') (hb : b < B) : z.Own w' B v := ⟨h.e.turn ht hb, h.za, h.ea⟩
theorem OwnA.turn {w w' : World} {b B : Nat} {v : Value} {zs : List Az} (h : OwnA w B v zs) (ht : Turns b w w') (hb : b < B) : OwnA w' B v zs := ⟨own_turn h.row ht hb, fun c hc => (h.all c hc).turn ht hb⟩
/-- One more of the call's own, beside the others. -/
theorem OwnA.add {wr w1' w2 : World} {B : Nat} {v v' : Value} {zs : List Az} {y : Az} {u : Value} (HE : OwnA w1' B v zs) (hv : ∀ m, v.ownBlock = some m → m < wr.heap.size) (hB : B ≤ wr.heap.size) (ho : y.Own w1' wr.heap.size u)
    (hr : w2.ownsRow B 86 4 v' (zs.length + 1) (flatZs (zs ++ [y]))) (hg : w1'.grownBy w2 v.ownBlock) (h5 : v'.ownBlock = v.ownBlock ∨ v'.ownBlock = some w1'.heap.size) : OwnA w2 B v' (zs ++ [y]) := by
  refine ⟨by rw [List.length_append]; exact hr, fun e he => ?_⟩
  rcases List.mem_append.1 he with h | h
  · exact (HE.all e h).beside hg h5
  · rw [List.mem_singleton.1 h]
    exact Az.Own.beside (v := v) ⟨ho.e.mono hB, apart_less (s := wr.heap.size) (fun m hm => (ho.e.row.lt m hm).1) hv, fun e he => apart_less (s := wr.heap.size) (fun m hm => ((ho.e.all e he).o.lt m hm).1) hv⟩ hg h5
/-- What rules.list of acts answers. -/
def ActsRes (w0 w : World) (b : Nat) (a : Option Addr) (n c : Nat) (r : Except (Option Nat) (List Ap × List Kt × Nat)) (e : Ending) (w' : World) : Prop := match r with
  | .ok x => (∃ (ao : Option Addr) (mc : Nat) (zs : List Az), e = .returned (.tuple #[.slice ao zs.length mc, .int .i64 0]) ∧ OwnA w' w.heap.size (.slice ao zs.length mc) zs ∧ (∀ z ∈ zs, z.m = z.es.length) ∧ zs.map Az.pl = x.1.map cutT) ∧ Rdr w0 w' b a n c x.2.2 ∧ Turns b w w'
  | .error (some q) => e = .returned (.tuple #[.slice none 0 0, .int .i64 7]) ∧ Rdr w0 w' b a n c q ∧ Turns b w w'
  | .error none => e = .returned (.tuple #[.slice none 0 0, .int .i64 2]) ∧ (∃ q, Rdr w0 w' b a n c q) ∧ Turns b w w'
set_option maxHeartbeats 4000000 in
set_option maxRecDepth 100000 in
theorem acts_list {w0 : World} {a : Option Addr} {n c : Nat} {xs : List Tm} (G : Sg w0 a n c xs) {b p : Nat} (r : Except (Option Nat) (List Ap × List Kt × Nat)) (w : World) (R : Rdr w0 w b a n c p) (H : Hid (allR actR ((xs.map ktm).drop p) p = r)) :
    Calls Tryz.prog 104 #[.pointer (some ⟨b, 0, none⟩), .func (.func 105) #[.pointer (some ⟨b, 0, none⟩)] #[]] w fun e w' => ActsRes w0 w b a n c r e w' := by
  have hlen := G.len
  have hblt := R.lt
  go_enter Tryz.func104, Tryz.ntmps104
  go_wp2_with fail
  go_loopw [6] (fun v wr => ∃ (ao : Option Addr) (mc : Nat) (es : List Az) (acc : List Ap) (q : Nat), v = .slice ao es.length mc ∧ OwnA wr w.heap.size (.slice ao es.length mc) es ∧ Hid (es.map Az.pl = acc.map cutT) ∧ Hid (∀ z ∈ es, z.m = z.es.length) ∧ es.length ≤ q ∧ Hid (addM acc (allR actR ((xs.map ktm).drop q) q) = r) ∧ Rdr w0 wr b a n c q ∧ Turns b w wr) (fun _ wr => n - placeOf b wr)
  case atStart => exact ⟨none, 0, [], [], p, rfl, ⟨World.ownsRow_nil _ _ _ _, fun e he => by cases he⟩, hide rfl, hide (fun z hz => by cases hz), Nat.zero_le _, hide (by rw [addM_nil]; exact unhide H), R, Turns.refl _ _⟩
  case round =>
    obtain ⟨ao, mc, es, acc, q, rfl, HE, HM, HZ, hq, HR, R1, ht⟩ := hrel
    clear R H
    obtain ⟨rx, hrx⟩ : ∃ rx, actR ((xs.map ktm).drop q) q = rx := ⟨_, rfl⟩
    have F := hide (act_any G rx wr R1 (hide hrx))
    have hqn := R1.le
    rcases rx with (_ | q') | ⟨v, rest, q'⟩
    · have HE' := hide ((unhide HR).symm.trans (congrArg (addM acc) (all_no one_act hrx)))
      clear HR hrx HE HM
      go_wp2_with fail
      refine (unhide F).mono ?_
      rintro e w1 ⟨⟨d, rfl⟩, R2, ht2⟩
      have hbx := below_new w1 (bxZ d)
      have R3 := (fun ⟨q, h⟩ => ⟨q, Rdr.on h hbx⟩ : (∃ q, Rdr w0 w1 b a n c q) → ∃ q, Rdr w0 (w1.alloc (bxZ d)) b a n c q) R2
      have ht3 := (ht.tr ht2).go hbx
      clear F R1 R2
      go_wp2_with fail
      refine bodyPost_ret (v := .tuple #[.slice none 0 0, .int .i64 2]) (by simp [results, Tryz.results104, go_sem]) rfl ?_
      rw [unhide HE']
      exact ⟨rfl, R3, ht3⟩
    · have HE' := hide ((unhide HR).symm.trans (congrArg (addM acc) (all_no one_act hrx)))
      clear HR hrx HE HM
      go_wp2_with fail
      refine (unhide F).mono ?_
      rintro e w1 ⟨⟨d, rfl⟩, R2, ht2⟩
      have hbx := below_new w1 (bxZ d)
      have R3 := R2.on hbx
      have ht3 := (ht.tr ht2).go hbx
      clear F R1 R2
      go_wp2_with fail
      refine bodyPost_ret (v := .tuple #[.slice none 0 0, .int .i64 7]) (by simp [results, Tryz.results104, go_sem]) rfl ?_
      rw [unhide HE']
      exact ⟨rfl, R3, ht3⟩
    · obtain ⟨g1, g2, g3⟩ := places_actR (by rw [hlen]; exact hqn) hrx
      have g4 := one_act.mv (by rw [hlen]; exact hqn) hrx
      simp only at g1 g2 g3 g4
      subst g1
      rw [hlen] at g3
      have HX := hide hrx
      have HMM := hide (fun (d : Az) (h : d.pl = cutT v) => show (es ++ [d]).map Az.pl = (acc ++ [v]).map cutT by rw [List.map_append, List.map_append, unhide HM, List.map_singleton, List.map_singleton, h])
      clear hrx HM
      go_wp2_with fail
      refine (unhide F).mono ?_
      rintro e w1 ⟨⟨d, rfl, ho, hdm, hpl⟩, R2, ht2⟩
      have HDM := hide hdm
      clear F hdm
      simp only at hpl R2
      have HE1 := HE.turn ht2 (by omega)
      have hwr : w.heap.size ≤ wr.heap.size := ht.size
      have hv : ∀ k, (Value.slice ao es.length mc).ownBlock = some k → k < wr.heap.size := fun k hk => (HE.row.lt k hk).2
      clear HE
      have hb2 : Below w1.heap.size w1 ((w1.alloc (bxZ d)).alloc (bxZ d)) := ((Below.refl _ _).alloc (Nat.le_refl _) _).alloc (by simp) _
      have HE2' := HE1.on hb2
      have ho' := ho.on hb2
      have hs2 : ((w1.alloc (bxZ d)).alloc (bxZ d)).heap.size = w1.heap.size + 2 := by simp
      have hnew : Hid (((w1.alloc (bxZ d)).alloc (bxZ d)).heap[w1.heap.size + 1]? = some (bxZ d)) := hide (by
        have := heap_alloc_new (w1.alloc (bxZ d)) (bxZ d)
        rwa [show (w1.alloc (bxZ d)).heap.size = w1.heap.size + 1 by simp] at this)
      have hown := HE2'.row
      have hsz : w.heap.size ≤ ((w1.alloc (bxZ d)).alloc (bxZ d)).heap.size := by have := ht2.size; omega
      have HS2 := hide hs2
      clear hs2
      have hfew := G.few
      go_wp2_with (at_builtin; refine app_zw rfl _ _ rfl w.heap.size (.slice ao es.length mc) es d (w1.heap.size + 1) rfl rfl hown hnew (by omega) hsz ?_)
      intro v' w2 hr hg h5
      have h5' : v'.ownBlock = (Value.slice ao es.length mc).ownBlock ∨ v'.ownBlock = some ((w1.alloc (bxZ d)).alloc (bxZ d)).heap.size := by rw [unhide HS2]; exact h5
      have HE2 := HE2'.add (wr := wr) (y := d) hv hwr ho' hr hg h5'
      have hM := unhide HMM d hpl
      have R3 := (R2.on hb2).grow hg (fun k hk => (hown.lt k hk).1) hblt
      have ht3 := ((ht.tr ht2).go hb2).grow hg (fun k hk => (hown.lt k hk).1)
      obtain ⟨ao2, mc2, rfl⟩ := own_slice hr
      have hlE : Hid ((es ++ [d]).length = es.length + 1) := hide (by rw [List.length_append, List.length_singleton])
      have HZ' : Hid (∀ z ∈ es ++ [d], z.m = z.es.length) := hide (fun z hz => by
        rcases List.mem_append.1 hz with h | h
        · exact unhide HZ z h
        · rw [List.mem_singleton.1 h]; exact unhide HDM)
      generalize es ++ [d] = es' at HE2 hM hlE HZ'
      have HM' := hide hM
      rw [show es.length + 1 = es'.length from (unhide hlE).symm] at HE2 ⊢
      have hq' : es'.length ≤ q' := by rw [unhide hlE]; omega
      clear HDM HZ hM hr hg h5 h5' hown hnew HE1 ho ho' HE2' hb2 HMM R2 hlE hv hsz HS2
      by_cases hc : (xs.map ktm)[q']? = some (5, [44])
      · have HC := hide hc
        have hql : q' < n := by
          have := (List.getElem?_eq_some_iff.1 hc).1
          rw [hlen] at this; exact this
        have HR' := hide ((all_more one_act acc (by rw [hlen]; exact hqn) (unhide HX) hc).symm.trans (unhide HR))
        clear hc HR HX
        go_wp2_with fail
        refine (takes_yes G 5 ⟨#[44]⟩ w2 R3 HC).mono ?_
        rintro e w3 ⟨rfl, R4, ht4⟩
        have HE3 := HE2.turn ht4 hblt
        have ht5 := ht3.tr ht4
        have hp1 := R1.place
        have hp4 := R4.place
        clear R1 R3 HE2 HC
        go_wp2_with fail
        go_roundw
        case rel => exact ⟨ao2, mc2, es', acc ++ [v], q' + 1, rfl, HE3, HM', HZ', by omega, HR', R4, ht5⟩
        case measure => rw [hp1, hp4]; omega
      · have HC := hide hc
        have HR' := hide ((congrArg (addM acc) (all_one one_act (unhide HX) hc)).symm.trans (unhide HR))
        clear hc HR HX R1
        go_wp2_with fail
        refine (takes_no G 5 ⟨#[44]⟩ w2 R3 HC).mono ?_
        rintro e w3 ⟨rfl, hb3⟩
        have HE3 := HE2.on hb3
        have R4 := R3.on hb3
        clear R3 HE2 HC
        go_wp2_with fail
        refine bodyPost_ret (v := .tuple #[.slice ao2 es'.length mc2, .int .i64 0]) (by simp [results, Tryz.results104, go_sem]) rfl ?_
        rw [← unhide HR']
        exact ⟨⟨ao2, mc2, es', rfl, HE3, unhide HZ', unhide HM'⟩, R4, ht3.go hb3⟩
end Go.Proofs.YtcjnhhbcleljmaaGreatDoor.Sb
namespace Go.Proofs.YtcjnhhbcleljmaaGreatDoor.Sb
open Go.RowKit
open V
open Ex (RowO LiesO flatO liesO_own)

/-- A rule's box, none of its cells frozen. -/
structure QB (W : World) (g : Nat) (v0 v1 v2 v3 : Value) : Prop where
  at_ : W.heap[g]? = some (.cells #[v0, v1, v2, v3] 25 (0, 0))
namespace QB
variable {W W' : World} {g b : Nat} {v0 v1 v2 v3 : Value}
theorem lt (h : QB W g v0 v1 v2 v3) : g < W.heap.size := (Array.getElem?_eq_some_iff.1 h.at_).1
theorem new (w : World) : QB (w.alloc (.cells #[v0, v1, v2, v3] 25)) w.heap.size v0 v1 v2 v3 := ⟨heap_alloc_new w _⟩
theorem on (h : QB W g v0 v1 v2 v3) (hb : Below W.heap.size W W') : QB W' g v0 v1 v2 v3 := ⟨by rw [hb.block g h.lt]; exact h.at_⟩
theorem turn (h : QB W g v0 v1 v2 v3) (ht : Turns b W W') (hne : g ≠ b) : QB W' g v0 v1 v2 v3 := ⟨(ht.block g h.lt (fun e => hne (Option.some.inj e))).trans h.at_⟩
theorem c0 (h : QB W g v0 v1 v2 v3) : W.cell? ⟨g, 0, none⟩ = some v0 := by rw [Lib.cell_of_heap h.at_]; rfl
theorem c1 (h : QB W g v0 v1 v2 v3) : W.cell? ⟨g, 1, none⟩ = some v1 := by rw [Lib.cell_of_heap h.at_]; rfl
theorem c2 (h : QB W g v0 v1 v2 v3) : W.cell? ⟨g, 2, none⟩ = some v2 := by rw [Lib.cell_of_heap h.at_]; rfl
theorem c3 (h : QB W g v0 v1 v2 v3) : W.cell? ⟨g, 3, none⟩ = some v3 := by rw [Lib.cell_of_heap h.at_]; rfl
theorem fz (h : QB W g v0 v1 v2 v3) (i : Nat) : W.frozen? ⟨g, i, none⟩ = false := Lib.frozen_of_heap h.at_ i
theorem set0 (h : QB W g v0 v1 v2 v3) (x : Value) : QB (W.setCell ⟨g, 0, none⟩ x) g x v1 v2 v3 := ⟨by rw [Lib.heap_setCell_same h.at_]; rfl⟩
theorem set1 (h : QB W g v0 v1 v2 v3) (x : Value) : QB (W.setCell ⟨g, 1, none⟩ x) g v0 x v2 v3 := ⟨by rw [Lib.heap_setCell_same h.at_]; rfl⟩
theorem set2 (h : QB W g v0 v1 v2 v3) (x : Value) : QB (W.setCell ⟨g, 2, none⟩ x) g v0 v1 x v3 := ⟨by rw [Lib.heap_setCell_same h.at_]; rfl⟩
theorem set3 (h : QB W g v0 v1 v2 v3) (x : Value) : QB (W.setCell ⟨g, 3, none⟩ x) g v0 v1 v2 x := ⟨by rw [Lib.heap_setCell_same h.at_]; rfl⟩
end QB
theorem four_q {W : World} {g : Nat} {v0 v1 v2 v3 : Value} (h : QB W g v0 v1 v2 v3) (x0 x1 x2 x3 : Value) : QB (four W g x0 x1 x2 x3) g x0 x1 x2 x3 := (((h.set0 x0).set1 x1).set2 x2).set3 x3
theorem Cd.Own.low {c : Cd} {w : World} {B g i : Nat} {v : Value} (h : c.Own w B v) (hg : g < B) (u : Value) : c.Own (w.setCell ⟨g, i, none⟩ u) B v := ⟨own_low h.t hg u, own_low h.x hg u, own_low h.y hg u, h.ta, h.xa, h.ya⟩
theorem OwnC.low {w : World} {B g i : Nat} {v : Value} {cs : List Cd} (h : OwnC w B v cs) (hg : g < B) (u : Value) : OwnC (w.setCell ⟨g, i, none⟩ u) B v cs := ⟨own_low h.row hg u, fun c hc => (h.all c hc).low hg u⟩
theorem OwnC.four {w : World} {B g : Nat} {v : Value} {cs : List Cd} (h : OwnC w B v cs) (hg : g < B) (x0 x1 x2 x3 : Value) : OwnC (Sb.four w g x0 x1 x2 x3) B v cs := (((h.low hg x0).low hg x1).low hg x2).low hg x3
theorem Az.Own.low {z : Az} {w : World} {B g i : Nat} {v : Value} (h : z.Own w B v) (hg : g < B) (u : Value) : z.Own (w.setCell ⟨g, i, none⟩ u) B v := ⟨h.e.low hg u, h.za, h.ea⟩
theorem OwnA.low {w : World} {B g i : Nat} {v : Value} {zs : List Az} (h : OwnA w B v zs) (hg : g < B) (u : Value) : OwnA (w.setCell ⟨g, i, none⟩ u) B v zs := ⟨own_low h.row hg u, fun c hc => (h.all c hc).low hg u⟩
theorem OwnA.four {w : World} {B g : Nat} {v : Value} {zs : List Az} (h : OwnA w B v zs) (hg : g < B) (x0 x1 x2 x3 : Value) : OwnA (Sb.four w g x0 x1 x2 x3) B v zs := (((h.low hg x0).low hg x1).low hg x2).low hg x3
theorem OwnA.mono {w : World} {B B' : Nat} {v : Value} {zs : List Az} (h : OwnA w B v zs) (hB : B' ≤ B) : OwnA w B' v zs := ⟨own_mono h.row hB, fun c hc => ⟨(h.all c hc).e.mono hB, (h.all c hc).za, (h.all c hc).ea⟩⟩
abbrev zR : Obj := .cells #[.string ⟨#[]⟩, .int .i64 0, .slice none 0 0, .slice none 0 0] 25
/-- A rule, as it is handed back. -/
abbrev aggR (r : Rz) : Value := .agg #[.string r.n, .int .i64 r.p, .slice r.ca r.cl r.cc, .slice r.aa r.al r.ac]
abbrev zeroRz : Rz := ⟨⟨#[]⟩, 0, none, 0, 0, [], none, 0, 0, []⟩
/-- A rule whose rows are memory of the call's own. -/
structure Rz.Own (r : Rz) (w : World) (B : Nat) : Prop where
  c : OwnC w B (.slice r.ca r.cl r.cc) r.cs
  a : OwnA w B (.slice r.aa r.al r.ac) r.zs
  cl : r.cl = r.cs.length
  al : r.al = r.zs.length
  m : ∀ z ∈ r.zs, z.m = z.es.length
/-- What the reader of a rule answers. -/
def RuleRes (w0 w : World) (b : Nat) (a : Option Addr) (n c : Nat) (r : Except (Option Nat) (Rp × List Kt × Nat)) (e : Ending) (w' : World) : Prop := match r with
  | .ok x => (∃ z : Rz, e = .returned (.tuple #[aggR z, .int .i64 0]) ∧ z.Own w' w.heap.size ∧ z.pl = cutR x.1) ∧ Rdr w0 w' b a n c x.2.2 ∧ Turns b w w'
  | .error (some q) => e = .returned (.tuple #[aggR zeroRz, .int .i64 7]) ∧ Rdr w0 w' b a n c q ∧ Turns b w w'
  | .error none => e = .returned (.tuple #[aggR zeroRz, .int .i64 2]) ∧ (∃ q, Rdr w0 w' b a n c q) ∧ Turns b w w'
theorem kN_bd {ks : List Kt} {p : Nat} {v : Int} (h : kN ks p = some v) : -4611686018427387904 ≤ v ∧ v ≤ 4611686018427387904 := by
  unfold kN at h
  split at h
  · split at h
    · exact numGo_bd h
    · cases h
  · cases h
/-- What stands behind a rule's colon, behind its arrow. -/
def tailR (n : List UInt8) (i : Int) : Rd Rp := bindR (allR condR) (fun cs => bindR (takeR (5, [45, 62])) (fun _ => bindR (allR actR) (fun us => bindR (takeR (5, [46])) (fun _ => pureR (n, i, cs, us)))))
def headR : Rd Rp := bindR (takeR (1, wordRule)) (fun _ => bindR nameR (fun n => bindR numR (fun i => bindR (takeR (5, [58])) (fun _ => tailR n i))))
theorem head_same : ruleR = headR := rfl
set_option maxHeartbeats 8000000 in
set_option maxRecDepth 100000 in
theorem rule_any {w0 : World} {a : Option Addr} {n c : Nat} {xs : List Tm} (G : Sg w0 a n c xs) {b p : Nat} (r : Except (Option Nat) (Rp × List Kt × Nat)) (w : World) (R : Rdr w0 w b a n c p) (H : Hid (ruleR ((xs.map ktm).drop p) p = r)) :
    Calls Tryz.prog 54 #[.pointer (some ⟨b, 0, none⟩)] w fun e w' => RuleRes w0 w b a n c r e w' := by
  have hlen := G.len
  have hblt := R.lt
  have hne : w.heap.size ≠ b := fun e => by omega
  have hlo : w0.heap.size ≤ w.heap.size := R.bel.size
  have hpn := R.le
  have hb0 := below_new w zR
  have C0 := QB.new (v0 := .string ⟨#[]⟩) (v1 := .int .i64 0) (v2 := .slice none 0 0) (v3 := .slice none 0 0) w
  have R0 := R.on hb0
  have ht0 := Turns.of (b := b) hb0
  have hs0 : (w.alloc zR).heap.size = w.heap.size + 1 := by simp
  rw [head_same] at H
  clear hb0 R
  go_enter Tryz.func54, Tryz.ntmps54
  go_wp2_with fail
  generalize w.alloc zR = W1 at C0 R0 ht0 hs0 ⊢
  by_cases h1 : (xs.map ktm)[p]? = some (1, wordRule)
  case neg =>
    have HE := hide ((unhide H).symm.trans (take_no _ h1))
    refine (takes_no G 1 ⟨#[114, 117, 108, 101]⟩ W1 R0 (hide h1)).mono ?_
    rintro e W2 ⟨rfl, hb2⟩
    have C2 := C0.on hb2
    have R2 := R0.on hb2
    have ht2 := ht0.go hb2
    clear C0 R0 ht0 hb2 H h1 hs0
    have CF := four_q C2 (.string ⟨#[]⟩) (.int .i64 0) (.slice none 0 0) (.slice none 0 0)
    have RF := four_r R2 hlo hne (.string ⟨#[]⟩) (.int .i64 0) (.slice none 0 0) (.slice none 0 0)
    have tF := four_t ht2 (Nat.le_refl w.heap.size) (.string ⟨#[]⟩) (.int .i64 0) (.slice none 0 0) (.slice none 0 0)
    obtain ⟨t0, t1, t2, t3⟩ : _ ∧ _ ∧ _ ∧ _ := ⟨CF.c0, CF.c1, CF.c2, CF.c3⟩
    obtain ⟨z0, z1, z2, z3⟩ : _ ∧ _ ∧ _ ∧ _ := ⟨C2.c0, C2.c1, C2.c2, C2.c3⟩
    obtain ⟨f0, f1, f2, f3⟩ : _ ∧ _ ∧ _ ∧ _ := ⟨C2.fz 0, C2.fz 1, C2.fz 2, C2.fz 3⟩
    clear CF C2
    go_wp2_with fail
    refine bodyPost_ret (v := .tuple #[aggR zeroRz, .int .i64 7]) (by simp [results, Tryz.results54, go_sem, t0, t1, t2, t3]) rfl ?_
    rw [unhide HE]
    exact ⟨rfl, RF, tF⟩
  have h1n : p < n := by
    have := (List.getElem?_eq_some_iff.1 h1).1
    rw [hlen] at this; exact this
  have HR := hide ((unhide H).symm.trans (take_yes _ h1))
  refine (takes_yes G 1 ⟨#[114, 117, 108, 101]⟩ W1 R0 (hide h1)).mono ?_
  rintro e W2 ⟨rfl, R2, hta⟩
  have C2 := C0.turn hta hne
  have ht2 := ht0.tr hta
  have hs2 : w.heap.size + 1 ≤ W2.heap.size := by have := hta.size; omega
  clear C0 R0 ht0 hta H h1 hs0
  go_wp2_with fail
  cases hn : nameK (xs.map ktm) (p + 1) with
  | false =>
    have HE := hide ((unhide HR).trans (bind_no _ (nameR_no hn)))
    have F := name_no G W2 R2 (hide hn)
    clear HR hn
    refine F.mono ?_
    rintro e W3 ⟨rfl, hb3⟩
    have C3' := C2.on hb3
    have C3 := C3'.set0 (.string ⟨#[]⟩)
    have R3 := (R2.on hb3).new hlo hne (i := 0) (.string ⟨#[]⟩)
    have ht3 := (ht2.go hb3).new (g := w.heap.size) (i := 0) (Nat.le_refl _) (.string ⟨#[]⟩)
    obtain ⟨y0, g0⟩ : _ ∧ _ := ⟨C3'.c0, C3'.fz 0⟩
    clear F C2 R2 ht2 hb3 C3' hs2
    have CF := four_q C3 (.string ⟨#[]⟩) (.int .i64 0) (.slice none 0 0) (.slice none 0 0)
    have RF := four_r R3 hlo hne (.string ⟨#[]⟩) (.int .i64 0) (.slice none 0 0) (.slice none 0 0)
    have tF := four_t ht3 (Nat.le_refl w.heap.size) (.string ⟨#[]⟩) (.int .i64 0) (.slice none 0 0) (.slice none 0 0)
    obtain ⟨t0, t1, t2, t3⟩ : _ ∧ _ ∧ _ ∧ _ := ⟨CF.c0, CF.c1, CF.c2, CF.c3⟩
    obtain ⟨z0, z1, z2, z3⟩ : _ ∧ _ ∧ _ ∧ _ := ⟨C3.c0, C3.c1, C3.c2, C3.c3⟩
    obtain ⟨f0, f1, f2, f3⟩ : _ ∧ _ ∧ _ ∧ _ := ⟨C3.fz 0, C3.fz 1, C3.fz 2, C3.fz 3⟩
    clear CF C3
    go_wp2_with fail
    refine bodyPost_ret (v := .tuple #[aggR zeroRz, .int .i64 7]) (by simp [results, Tryz.results54, go_sem, t0, t1, t2, t3]) rfl ?_
    rw [unhide HE]
    exact ⟨rfl, RF, tF⟩
  | true =>
  obtain ⟨x, hx⟩ : ∃ x, xs[p + 1]? = some x := by
    obtain ⟨t, h0, _⟩ := nameK_yes hn
    rw [List.getElem?_map] at h0
    cases hx : xs[p + 1]? with
    | none => rw [hx] at h0; cases h0
    | some x => exact ⟨x, rfl⟩
  have hk1 : (ktm x).1 = 1 ∧ nameB (ktm x).2 = true := by
    obtain ⟨t, h0, h1⟩ := nameK_yes hn
    rw [List.getElem?_map, hx] at h0
    cases h0
    exact h1
  have hq1 : p + 1 < n := by
    have := (List.getElem?_eq_some_iff.1 hx).1
    rw [← List.length_map (f := ktm), hlen] at this
    exact this
  have HR2 := hide ((unhide HR).trans (bind_yes _ (nameR_yes (t := ktm x) (by rw [List.getElem?_map, hx]; rfl) hk1.1 hk1.2)))
  have F := name_yes G x W2 R2 (hide hx) (hide hn)
  clear HR hn hx hk1
  refine F.mono ?_
  rintro e W3 ⟨rfl, R3', hta⟩
  have C3' := C2.turn hta hne
  have C3 := C3'.set0 (.string x.2.1)
  have R3 := R3'.new hlo hne (i := 0) (.string x.2.1)
  have ht3 := (ht2.tr hta).new (g := w.heap.size) (i := 0) (Nat.le_refl _) (.string x.2.1)
  have hs3 : w.heap.size + 1 ≤ (W3.setCell ⟨w.heap.size, 0, none⟩ (.string x.2.1)).heap.size := by have := hta.size; simp; omega
  obtain ⟨y0, g0⟩ : _ ∧ _ := ⟨C3'.c0, C3'.fz 0⟩
  clear F C2 R2 ht2 hta C3' R3' hs2
  go_wp2_with fail
  clear y0 g0
  generalize W3.setCell ⟨w.heap.size, 0, none⟩ (.string x.2.1) = W4 at C3 R3 ht3 hs3 ⊢
  obtain ⟨rv, hrv⟩ : ∃ rv, kN (xs.map ktm) (p + 1 + 1) = rv := ⟨_, rfl⟩
  cases rv with
  | none =>
    have HE := hide ((unhide HR2).trans (bind_no _ (numR_no hrv)))
    have F := number_no G (-4611686018427387904) W4 R3 (hide hrv)
    clear HR2 hrv
    refine F.mono ?_
    rintro e W5 ⟨rfl, hb5⟩
    have C4' := C3.on hb5
    have C4 := C4'.set1 (.int .i64 0)
    have R4 := (R3.on hb5).new hlo hne (i := 1) (.int .i64 0)
    have ht4 := (ht3.go hb5).new (g := w.heap.size) (i := 1) (Nat.le_refl _) (.int .i64 0)
    obtain ⟨y1, g1⟩ : _ ∧ _ := ⟨C4'.c1, C4'.fz 1⟩
    clear F C3 R3 ht3 hb5 C4' hs3
    have CF := four_q C4 (.string ⟨#[]⟩) (.int .i64 0) (.slice none 0 0) (.slice none 0 0)
    have RF := four_r R4 hlo hne (.string ⟨#[]⟩) (.int .i64 0) (.slice none 0 0) (.slice none 0 0)
    have tF := four_t ht4 (Nat.le_refl w.heap.size) (.string ⟨#[]⟩) (.int .i64 0) (.slice none 0 0) (.slice none 0 0)
    obtain ⟨t0, t1, t2, t3⟩ : _ ∧ _ ∧ _ ∧ _ := ⟨CF.c0, CF.c1, CF.c2, CF.c3⟩
    obtain ⟨z0, z1, z2, z3⟩ : _ ∧ _ ∧ _ ∧ _ := ⟨C4.c0, C4.c1, C4.c2, C4.c3⟩
    obtain ⟨f0, f1, f2, f3⟩ : _ ∧ _ ∧ _ ∧ _ := ⟨C4.fz 0, C4.fz 1, C4.fz 2, C4.fz 3⟩
    clear CF C4
    go_wp2_with fail
    refine bodyPost_ret (v := .tuple #[aggR zeroRz, .int .i64 7]) (by simp [results, Tryz.results54, go_sem, t0, t1, t2, t3]) rfl ?_
    rw [unhide HE]
    exact ⟨rfl, RF, tF⟩
  | some v =>
  have hv : ¬ v < -4611686018427387904 := by have := (kN_bd hrv).1; omega
  have hq2 : p + 1 + 1 < n := by have := kN_lt hrv; rw [hlen] at this; exact this
  have HR3 := hide ((unhide HR2).trans (bind_yes _ (numR_yes hrv)))
  have F := number_yes G (-4611686018427387904) v W4 R3 (hide hrv) hv
  clear HR2 hrv hv
  refine F.mono ?_
  rintro e W5 ⟨rfl, R4', hta⟩
  have C4' := C3.turn hta hne
  have C4 := C4'.set1 (.int .i64 v)
  have R4 := R4'.new hlo hne (i := 1) (.int .i64 v)
  have ht4 := (ht3.tr hta).new (g := w.heap.size) (i := 1) (Nat.le_refl _) (.int .i64 v)
  have hs4 : w.heap.size + 1 ≤ (W5.setCell ⟨w.heap.size, 1, none⟩ (.int .i64 v)).heap.size := by have := hta.size; simp; omega
  obtain ⟨y1, g1⟩ : _ ∧ _ := ⟨C4'.c1, C4'.fz 1⟩
  clear F C3 R3 ht3 hta C4' R4' hs3
  go_wp2_with fail
  clear y1 g1
  generalize W5.setCell ⟨w.heap.size, 1, none⟩ (.int .i64 v) = W6 at C4 R4 ht4 hs4 ⊢
  by_cases h2 : (xs.map ktm)[p + 1 + 1 + 1]? = some (5, [58])
  case neg =>
    have HE := hide ((unhide HR3).trans (take_no _ h2))
    refine (takes_no G 5 ⟨#[58]⟩ W6 R4 (hide h2)).mono ?_
    rintro e W7 ⟨rfl, hb7⟩
    have C5 := C4.on hb7
    have R5 := R4.on hb7
    have ht5 := ht4.go hb7
    clear C4 R4 ht4 hb7 HR3 h2 hs4
    have CF := four_q C5 (.string ⟨#[]⟩) (.int .i64 0) (.slice none 0 0) (.slice none 0 0)
    have RF := four_r R5 hlo hne (.string ⟨#[]⟩) (.int .i64 0) (.slice none 0 0) (.slice none 0 0)
    have tF := four_t ht5 (Nat.le_refl w.heap.size) (.string ⟨#[]⟩) (.int .i64 0) (.slice none 0 0) (.slice none 0 0)
    obtain ⟨t0, t1, t2, t3⟩ : _ ∧ _ ∧ _ ∧ _ := ⟨CF.c0, CF.c1, CF.c2, CF.c3⟩
    obtain ⟨z0, z1, z2, z3⟩ : _ ∧ _ ∧ _ ∧ _ := ⟨C5.c0, C5.c1, C5.c2, C5.c3⟩
    obtain ⟨f0, f1, f2, f3⟩ : _ ∧ _ ∧ _ ∧ _ := ⟨C5.fz 0, C5.fz 1, C5.fz 2, C5.fz 3⟩
    clear CF C5
    go_wp2_with fail
    refine bodyPost_ret (v := .tuple #[aggR zeroRz, .int .i64 7]) (by simp [results, Tryz.results54, go_sem, t0, t1, t2, t3]) rfl ?_
    rw [unhide HE]
    exact ⟨rfl, RF, tF⟩
  have h2n : p + 1 + 1 + 1 < n := by
    have := (List.getElem?_eq_some_iff.1 h2).1
    rw [hlen] at this; exact this
  have HR4 := hide ((unhide HR3).trans (take_yes _ h2))
  refine (takes_yes G 5 ⟨#[58]⟩ W6 R4 (hide h2)).mono ?_
  rintro e W7 ⟨rfl, R5, hta⟩
  have C5 := C4.turn hta hne
  have ht5 := ht4.tr hta
  have hs5 : w.heap.size + 1 ≤ W7.heap.size := Nat.le_trans hs4 hta.size
  clear C4 R4 ht4 hta HR3 h2 hs4
  obtain ⟨P, hP⟩ : ∃ P, P = p + 1 + 1 + 1 + 1 := ⟨_, rfl⟩
  rw [← hP] at R5 HR4
  have hPn : P ≤ n := by omega
  clear hP h2n hq2 hq1 h1n
  go_wp2_with fail
  obtain ⟨rc, hrc⟩ : ∃ rc, allR condR ((xs.map ktm).drop P) P = rc := ⟨_, rfl⟩
  have F := conds_list G rc W7 R5 (hide hrc)
  rcases rc with (_ | q) | ⟨cs, rest, q⟩
  · have HE := hide ((unhide HR4).trans (bind_no _ hrc))
    clear HR4 hrc
    refine F.mono ?_
    rintro e W8 ⟨rfl, ⟨q, R6'⟩, hta⟩
    have C6' := C5.turn hta hne
    have C6 := C6'.set2 (.slice none 0 0)
    have R6 := R6'.new hlo hne (i := 2) (.slice none 0 0)
    have ht6 := (ht5.tr hta).new (g := w.heap.size) (i := 2) (Nat.le_refl _) (.slice none 0 0)
    obtain ⟨y2, g2⟩ : _ ∧ _ := ⟨C6'.c2, C6'.fz 2⟩
    clear F C5 R5 ht5 hta C6' R6'
    have CF := four_q C6 (.string ⟨#[]⟩) (.int .i64 0) (.slice none 0 0) (.slice none 0 0)
    have RF := four_r R6 hlo hne (.string ⟨#[]⟩) (.int .i64 0) (.slice none 0 0) (.slice none 0 0)
    have tF := four_t ht6 (Nat.le_refl w.heap.size) (.string ⟨#[]⟩) (.int .i64 0) (.slice none 0 0) (.slice none 0 0)
    obtain ⟨t0, t1, t2, t3⟩ : _ ∧ _ ∧ _ ∧ _ := ⟨CF.c0, CF.c1, CF.c2, CF.c3⟩
    obtain ⟨z0, z1, z2, z3⟩ : _ ∧ _ ∧ _ ∧ _ := ⟨C6.c0, C6.c1, C6.c2, C6.c3⟩
    obtain ⟨f0, f1, f2, f3⟩ : _ ∧ _ ∧ _ ∧ _ := ⟨C6.fz 0, C6.fz 1, C6.fz 2, C6.fz 3⟩
    clear CF C6
    go_wp2_with fail
    refine bodyPost_ret (v := .tuple #[aggR zeroRz, .int .i64 2]) (by simp [results, Tryz.results54, go_sem, t0, t1, t2, t3]) rfl ?_
    rw [unhide HE]
    exact ⟨rfl, ⟨q, RF⟩, tF⟩
  · have HE := hide ((unhide HR4).trans (bind_no _ hrc))
    clear HR4 hrc
    refine F.mono ?_
    rintro e W8 ⟨rfl, R6', hta⟩
    have C6' := C5.turn hta hne
    have C6 := C6'.set2 (.slice none 0 0)
    have R6 := R6'.new hlo hne (i := 2) (.slice none 0 0)
    have ht6 := (ht5.tr hta).new (g := w.heap.size) (i := 2) (Nat.le_refl _) (.slice none 0 0)
    obtain ⟨y2, g2⟩ : _ ∧ _ := ⟨C6'.c2, C6'.fz 2⟩
    clear F C5 R5 ht5 hta C6' R6'
    have CF := four_q C6 (.string ⟨#[]⟩) (.int .i64 0) (.slice none 0 0) (.slice none 0 0)
    have RF := four_r R6 hlo hne (.string ⟨#[]⟩) (.int .i64 0) (.slice none 0 0) (.slice none 0 0)
    have tF := four_t ht6 (Nat.le_refl w.heap.size) (.string ⟨#[]⟩) (.int .i64 0) (.slice none 0 0) (.slice none 0 0)
    obtain ⟨t0, t1, t2, t3⟩ : _ ∧ _ ∧ _ ∧ _ := ⟨CF.c0, CF.c1, CF.c2, CF.c3⟩
    obtain ⟨z0, z1, z2, z3⟩ : _ ∧ _ ∧ _ ∧ _ := ⟨C6.c0, C6.c1, C6.c2, C6.c3⟩
    obtain ⟨f0, f1, f2, f3⟩ : _ ∧ _ ∧ _ ∧ _ := ⟨C6.fz 0, C6.fz 1, C6.fz 2, C6.fz 3⟩
    clear CF C6
    go_wp2_with fail
    refine bodyPost_ret (v := .tuple #[aggR zeroRz, .int .i64 7]) (by simp [results, Tryz.results54, go_sem, t0, t1, t2, t3]) rfl ?_
    rw [unhide HE]
    exact ⟨rfl, RF, tF⟩
  · obtain ⟨g1, g2, g3⟩ := places_all one_cond (by rw [hlen]; omega) hrc
    simp only at g1 g2 g3
    subst g1
    rw [hlen] at g3
    have HR5 := hide ((unhide HR4).trans (bind_yes _ hrc))
    clear HR4 hrc
    refine F.mono ?_
    rintro e W8 ⟨⟨ao, mc, ds, rfl, hE, hpx⟩, R6', hta⟩
    simp only at hpx R6'
    have C6' := C5.turn hta hne
    have C6 := C6'.set2 (.slice ao ds.length mc)
    have R6 := R6'.new hlo hne (i := 2) (.slice ao ds.length mc)
    have ht6 := (ht5.tr hta).new (g := w.heap.size) (i := 2) (Nat.le_refl _) (.slice ao ds.length mc)
    have hE6 := (hE.mono hs5).low (g := w.heap.size) (i := 2) (Nat.lt_succ_self _) (.slice ao ds.length mc)
    have hs6 : w.heap.size + 1 ≤ (W8.setCell ⟨w.heap.size, 2, none⟩ (.slice ao ds.length mc)).heap.size := by have := hta.size; simp; omega
    obtain ⟨y2, g2'⟩ : _ ∧ _ := ⟨C6'.c2, C6'.fz 2⟩
    have HP := hide hpx
    clear F C5 R5 ht5 hta C6' R6' hs5 hE hpx
    go_wp2_with fail
    clear y2 g2'
    generalize W8.setCell ⟨w.heap.size, 2, none⟩ (.slice ao ds.length mc) = W9 at C6 R6 ht6 hE6 hs6 ⊢
    by_cases h3 : (xs.map ktm)[q]? = some (5, [45, 62])
    case neg =>
      have HE := hide ((unhide HR5).trans (take_no _ h3))
      refine (takes_no G 5 ⟨#[45, 62]⟩ W9 R6 (hide h3)).mono ?_
      rintro e W10 ⟨rfl, hb10⟩
      have C7 := C6.on hb10
      have R7 := R6.on hb10
      have ht7 := ht6.go hb10
      clear C6 R6 ht6 hE6 hb10 HR5 h3 hs6
      have CF := four_q C7 (.string ⟨#[]⟩) (.int .i64 0) (.slice none 0 0) (.slice none 0 0)
      have RF := four_r R7 hlo hne (.string ⟨#[]⟩) (.int .i64 0) (.slice none 0 0) (.slice none 0 0)
      have tF := four_t ht7 (Nat.le_refl w.heap.size) (.string ⟨#[]⟩) (.int .i64 0) (.slice none 0 0) (.slice none 0 0)
      obtain ⟨t0, t1, t2, t3⟩ : _ ∧ _ ∧ _ ∧ _ := ⟨CF.c0, CF.c1, CF.c2, CF.c3⟩
      obtain ⟨z0, z1, z2, z3⟩ : _ ∧ _ ∧ _ ∧ _ := ⟨C7.c0, C7.c1, C7.c2, C7.c3⟩
      obtain ⟨f0, f1, f2, f3⟩ : _ ∧ _ ∧ _ ∧ _ := ⟨C7.fz 0, C7.fz 1, C7.fz 2, C7.fz 3⟩
      clear CF C7
      go_wp2_with fail
      refine bodyPost_ret (v := .tuple #[aggR zeroRz, .int .i64 7]) (by simp [results, Tryz.results54, go_sem, t0, t1, t2, t3]) rfl ?_
      rw [unhide HE]
      exact ⟨rfl, RF, tF⟩
    have h3n : q < n := by
      have := (List.getElem?_eq_some_iff.1 h3).1
      rw [hlen] at this; exact this
    have HR6 := hide ((unhide HR5).trans (take_yes _ h3))
    refine (takes_yes G 5 ⟨#[45, 62]⟩ W9 R6 (hide h3)).mono ?_
    rintro e W10 ⟨rfl, R7, hta⟩
    have C7 := C6.turn hta hne
    have ht7 := ht6.tr hta
    have hE7 := hE6.turn hta (by omega)
    have hs7 : w.heap.size + 1 ≤ W10.heap.size := Nat.le_trans hs6 hta.size
    clear C6 R6 ht6 hta HR5 h3 hs6 hE6
    go_wp2_with fail
    obtain ⟨rt, hrt⟩ : ∃ rt, allR actR ((xs.map ktm).drop (q + 1)) (q + 1) = rt := ⟨_, rfl⟩
    have F := acts_list G rt W10 R7 (hide hrt)
    rcases rt with (_ | q2) | ⟨us, rest2, q2⟩
    · have HE := hide ((unhide HR6).trans (bind_no _ hrt))
      clear HR6 hrt
      refine F.mono ?_
      rintro e W8 ⟨rfl, ⟨q2, R6'⟩, hta⟩
      have C6' := C7.turn hta hne
      have C6 := C6'.set3 (.slice none 0 0)
      have R6 := R6'.new hlo hne (i := 3) (.slice none 0 0)
      have ht6 := (ht7.tr hta).new (g := w.heap.size) (i := 3) (Nat.le_refl _) (.slice none 0 0)
      obtain ⟨y2, g2⟩ : _ ∧ _ := ⟨C6'.c3, C6'.fz 3⟩
      clear F C7 R7 ht7 hta C6' R6'
      have CF := four_q C6 (.string ⟨#[]⟩) (.int .i64 0) (.slice none 0 0) (.slice none 0 0)
      have RF := four_r R6 hlo hne (.string ⟨#[]⟩) (.int .i64 0) (.slice none 0 0) (.slice none 0 0)
      have tF := four_t ht6 (Nat.le_refl w.heap.size) (.string ⟨#[]⟩) (.int .i64 0) (.slice none 0 0) (.slice none 0 0)
      obtain ⟨t0, t1, t2, t3⟩ : _ ∧ _ ∧ _ ∧ _ := ⟨CF.c0, CF.c1, CF.c2, CF.c3⟩
      obtain ⟨z0, z1, z2, z3⟩ : _ ∧ _ ∧ _ ∧ _ := ⟨C6.c0, C6.c1, C6.c2, C6.c3⟩
      obtain ⟨f0, f1, f2, f3⟩ : _ ∧ _ ∧ _ ∧ _ := ⟨C6.fz 0, C6.fz 1, C6.fz 2, C6.fz 3⟩
      clear CF C6
      go_wp2_with fail
      refine bodyPost_ret (v := .tuple #[aggR zeroRz, .int .i64 2]) (by simp [results, Tryz.results54, go_sem, t0, t1, t2, t3]) rfl ?_
      rw [unhide HE]
      exact ⟨rfl, ⟨q2, RF⟩, tF⟩
    · have HE := hide ((unhide HR6).trans (bind_no _ hrt))
      clear HR6 hrt
      refine F.mono ?_
      rintro e W8 ⟨rfl, R6', hta⟩
      have C6' := C7.turn hta hne
      have C6 := C6'.set3 (.slice none 0 0)
      have R6 := R6'.new hlo hne (i := 3) (.slice none 0 0)
      have ht6 := (ht7.tr hta).new (g := w.heap.size) (i := 3) (Nat.le_refl _) (.slice none 0 0)
      obtain ⟨y2, g2⟩ : _ ∧ _ := ⟨C6'.c3, C6'.fz 3⟩
      clear F C7 R7 ht7 hta C6' R6'
      have CF := four_q C6 (.string ⟨#[]⟩) (.int .i64 0) (.slice none 0 0) (.slice none 0 0)
      have RF := four_r R6 hlo hne (.string ⟨#[]⟩) (.int .i64 0) (.slice none 0 0) (.slice none 0 0)
      have tF := four_t ht6 (Nat.le_refl w.heap.size) (.string ⟨#[]⟩) (.int .i64 0) (.slice none 0 0) (.slice none 0 0)
      obtain ⟨t0, t1, t2, t3⟩ : _ ∧ _ ∧ _ ∧ _ := ⟨CF.c0, CF.c1, CF.c2, CF.c3⟩
      obtain ⟨z0, z1, z2, z3⟩ : _ ∧ _ ∧ _ ∧ _ := ⟨C6.c0, C6.c1, C6.c2, C6.c3⟩
      obtain ⟨f0, f1, f2, f3⟩ : _ ∧ _ ∧ _ ∧ _ := ⟨C6.fz 0, C6.fz 1, C6.fz 2, C6.fz 3⟩
      clear CF C6
      go_wp2_with fail
      refine bodyPost_ret (v := .tuple #[aggR zeroRz, .int .i64 7]) (by simp [results, Tryz.results54, go_sem, t0, t1, t2, t3]) rfl ?_
      rw [unhide HE]
      exact ⟨rfl, RF, tF⟩
    · obtain ⟨k1, k2, k3⟩ := places_all one_act (by rw [hlen]; omega) hrt
      simp only at k1 k2 k3
      subst k1
      rw [hlen] at k3
      have HR7 := hide ((unhide HR6).trans (bind_yes _ hrt))
      clear HR6 hrt
      refine F.mono ?_
      rintro e W11 ⟨⟨bo, md, zs, rfl, hA, hzm, hpz⟩, R8', hta⟩
      simp only at hpz R8'
      have C8' := C7.turn hta hne
      have C8 := C8'.set3 (.slice bo zs.length md)
      have R8 := R8'.new hlo hne (i := 3) (.slice bo zs.length md)
      have ht8 := (ht7.tr hta).new (g := w.heap.size) (i := 3) (Nat.le_refl _) (.slice bo zs.length md)
      have hE8 := (hE7.turn hta (by omega)).low (g := w.heap.size) (i := 3) (Nat.lt_succ_self _) (.slice bo zs.length md)
      have hA8 := (hA.mono hs7).low (g := w.heap.size) (i := 3) (Nat.lt_succ_self _) (.slice bo zs.length md)
      obtain ⟨y3, g3'⟩ : _ ∧ _ := ⟨C8'.c3, C8'.fz 3⟩
      have HPZ := hide hpz
      have HZM := hide hzm
      clear F C7 R7 ht7 hta C8' R8' hs7 hE7 hA hpz hzm
      go_wp2_with fail
      clear y3 g3'
      generalize W11.setCell ⟨w.heap.size, 3, none⟩ (.slice bo zs.length md) = W12 at C8 R8 ht8 hE8 hA8 ⊢
      by_cases h4 : (xs.map ktm)[q2]? = some (5, [46])
      · have HE := hide ((unhide HR7).trans (take_yes _ h4))
        refine (takes_yes G 5 ⟨#[46]⟩ W12 R8 (hide h4)).mono ?_
        rintro e W13 ⟨rfl, R9, hta⟩
        have C9 := C8.turn hta hne
        have ht9 := ht8.tr hta
        have hE9 := hE8.turn hta (by omega)
        have hA9 := hA8.turn hta (by omega)
        clear C8 R8 ht8 hE8 hA8 hta h4 HR7
        have CF := four_q C9 (.string x.2.1) (.int .i64 v) (.slice ao ds.length mc) (.slice bo zs.length md)
        have RF := four_r R9 hlo hne (.string x.2.1) (.int .i64 v) (.slice ao ds.length mc) (.slice bo zs.length md)
        have tF := four_t ht9 (Nat.le_refl w.heap.size) (.string x.2.1) (.int .i64 v) (.slice ao ds.length mc) (.slice bo zs.length md)
        have hEF := (hE9.four (g := w.heap.size) (Nat.lt_succ_self _) (.string x.2.1) (.int .i64 v) (.slice ao ds.length mc) (.slice bo zs.length md)).mono (B' := w.heap.size) (by omega)
        have hAF := (hA9.four (g := w.heap.size) (Nat.lt_succ_self _) (.string x.2.1) (.int .i64 v) (.slice ao ds.length mc) (.slice bo zs.length md)).mono (B' := w.heap.size) (by omega)
        obtain ⟨t0, t1, t2, t3⟩ : _ ∧ _ ∧ _ ∧ _ := ⟨CF.c0, CF.c1, CF.c2, CF.c3⟩
        obtain ⟨z0, z1, z2, z3⟩ : _ ∧ _ ∧ _ ∧ _ := ⟨C9.c0, C9.c1, C9.c2, C9.c3⟩
        obtain ⟨f0, f1, f2, f3⟩ : _ ∧ _ ∧ _ ∧ _ := ⟨C9.fz 0, C9.fz 1, C9.fz 2, C9.fz 3⟩
        clear CF C9 hE9 hA9
        go_wp2_with fail
        refine bodyPost_ret (v := .tuple #[aggR ⟨x.2.1, v, ao, ds.length, mc, ds, bo, zs.length, md, zs⟩, .int .i64 0]) (by simp [results, Tryz.results54, go_sem, t0, t1, t2, t3]) rfl ?_
        rw [unhide HE]
        exact ⟨⟨⟨x.2.1, v, ao, ds.length, mc, ds, bo, zs.length, md, zs⟩, rfl, ⟨hEF, hAF, rfl, rfl, unhide HZM⟩, by simp only [Rz.pl, cutR]; rw [unhide HP, unhide HPZ]; rfl⟩, RF, tF⟩
      · have HE := hide ((unhide HR7).trans (take_no _ h4))
        refine (takes_no G 5 ⟨#[46]⟩ W12 R8 (hide h4)).mono ?_
        rintro e W13 ⟨rfl, hb13⟩
        have C9 := C8.on hb13
        have R9 := R8.on hb13
        have ht9 := ht8.go hb13
        clear C8 R8 ht8 hE8 hA8 hb13 h4 HR7
        have CF := four_q C9 (.string ⟨#[]⟩) (.int .i64 0) (.slice none 0 0) (.slice none 0 0)
        have RF := four_r R9 hlo hne (.string ⟨#[]⟩) (.int .i64 0) (.slice none 0 0) (.slice none 0 0)
        have tF := four_t ht9 (Nat.le_refl w.heap.size) (.string ⟨#[]⟩) (.int .i64 0) (.slice none 0 0) (.slice none 0 0)
        obtain ⟨t0, t1, t2, t3⟩ : _ ∧ _ ∧ _ ∧ _ := ⟨CF.c0, CF.c1, CF.c2, CF.c3⟩
        obtain ⟨z0, z1, z2, z3⟩ : _ ∧ _ ∧ _ ∧ _ := ⟨C9.c0, C9.c1, C9.c2, C9.c3⟩
        obtain ⟨f0, f1, f2, f3⟩ : _ ∧ _ ∧ _ ∧ _ := ⟨C9.fz 0, C9.fz 1, C9.fz 2, C9.fz 3⟩
        clear CF C9
        go_wp2_with fail
        refine bodyPost_ret (v := .tuple #[aggR zeroRz, .int .i64 7]) (by simp [results, Tryz.results54, go_sem, t0, t1, t2, t3]) rfl ?_
        rw [unhide HE]
        exact ⟨rfl, RF, tF⟩
end Go.Proofs.YtcjnhhbcleljmaaGreatDoor.Sb
namespace Go.Proofs.YtcjnhhbcleljmaaGreatDoor.Sb
open Go.RowKit
open V
open Ex (RowO LiesO flatO liesO_own flatO_len)

theorem own_len_b {w : World} {B : Nat} {e : TypeId} {v : Value} {n : Nat} {ts : List Bb} (h : w.ownsRow B e 4 v n (flatB ts)) : n = ts.length := by
  have := h.1; rw [flatB_len] at this; omega
theorem own_len_o {w : World} {B : Nat} {e : TypeId} {v : Value} {n : Nat} {xs : List Oo} (h : w.ownsRow B e 5 v n (flatO xs)) : n = xs.length := by
  have := h.1; rw [flatO_len] at this; omega
theorem cutX_light (x : List Oo) : (cutX x).length ≤ 15 ∧ ∀ o ∈ cutX x, LtO o := by
  by_cases h : exprB x = true
  · rw [cutX_yes h]
    obtain ⟨h1, h2, _⟩ := expr_iff.1 h
    exact ⟨h1.2, fun o ho => rightO_lt (h2 o ho)⟩
  · rw [cutX_no h]
    exact ⟨by simp, fun o ho => by cases ho⟩
theorem cutA_light (a : At) : (cutA a).1.length ≤ 24 ∧ (cutA a).2.length ≤ 5 ∧ ∀ t ∈ (cutA a).2, Lt t := by
  by_cases h : V.rightA a = true
  · rw [cutA_yes h]
    simp only [V.rightA, Bool.and_eq_true, decide_eq_true_eq, List.all_eq_true] at h
    obtain ⟨h1, h2, h3⟩ := h
    exact ⟨name_short h1, h2, fun t ht => ⟨Nat.le_trans (right_lt (h3 t ht)).1 (by decide), Nat.le_trans (right_lt (h3 t ht)).2 (by decide)⟩⟩
  · rw [cutA_no h]
    exact ⟨by simp [noA], by simp [noA], fun t ht => by cases ht⟩
theorem size_len (s : ByteArray) : s.size = s.data.toList.length := by simp
theorem cd_light {d : Cd} {w : World} {B : Nat} {v : Value} {c : Cp} (h : d.Own w B v) (hp : d.pl = cutC c) : d.Light := by
  have e1 : d.n.data.toList = (cutA c.2.1).1 := congrArg (fun x => x.2.1.1) hp
  have e2 : d.ts = (cutA c.2.1).2 := congrArg (fun x => x.2.1.2) hp
  have e3 : d.xs = cutX c.2.2.2.1 := congrArg (fun x => x.2.2.2.1) hp
  have e4 : d.ys = cutX c.2.2.2.2 := congrArg (fun x => x.2.2.2.2) hp
  obtain ⟨a1, a2, a3⟩ := cutA_light c.2.1
  have l1 := own_len_b h.t
  have l2 := own_len_o h.x
  have l3 := own_len_o h.y
  have x1 := cutX_light c.2.2.2.1
  have x2 := cutX_light c.2.2.2.2
  refine ⟨by rw [size_len, e1]; omega, by rw [l1, e2]; omega, by rw [l2, e3]; omega, by rw [l3, e4]; omega, by rw [e2]; exact a3, by rw [e3]; exact x1.2, by rw [e4]; exact x2.2⟩
theorem az_soft {z : Az} {w : World} {B : Nat} {v : Value} {a : Ap} (h : z.Own w B v) (hp : z.pl = cutT a) (hn : a.2.1 = [] ∨ nameB a.2.1 = true) : z.Soft := by
  have e1 : z.n.data.toList = a.2.1 := congrArg (fun x => x.2.1) hp
  have e2 : z.es.map Ez.xs = a.2.2.1.map cutX := congrArg (fun x => x.2.2.1) hp
  refine ⟨?_, fun e he => ?_⟩
  · rw [size_len, e1]
    rcases hn with hn | hn
    · rw [hn]; simp
    · have := name_short hn; omega
  · have hm : e.xs ∈ a.2.2.1.map cutX := by rw [← e2]; exact List.mem_map_of_mem he
    obtain ⟨x, _, hx⟩ := List.mem_map.1 hm
    have l := own_len_o (h.e.all e he).o
    have xl := cutX_light x
    rw [hx] at xl
    exact ⟨by rw [l]; omega, xl.2⟩
theorem rz_soft {z : Rz} {w : World} {B : Nat} {v : Rp} (h : z.Own w B) (hp : z.pl = cutR v) (hn : nameB v.1 = true) (ha : ∀ a ∈ v.2.2.2, a.2.1 = [] ∨ nameB a.2.1 = true) : z.Soft := by
  have e1 : z.n.data.toList = v.1 := congrArg (fun x => x.1) hp
  have e2 : z.cs.map Cd.pl = v.2.2.1.map cutC := congrArg (fun x => x.2.2.1) hp
  have e3 : z.zs.map Az.pl = v.2.2.2.map cutT := congrArg (fun x => x.2.2.2) hp
  refine ⟨by rw [size_len, e1]; have := name_short hn; omega, fun d hd => ?_, fun y hy => ?_⟩
  · have hm : d.pl ∈ v.2.2.1.map cutC := by rw [← e2]; exact List.mem_map_of_mem hd
    obtain ⟨c, _, hc⟩ := List.mem_map.1 hm
    exact cd_light (h.c.all d hd) hc.symm
  · have hm : y.pl ∈ v.2.2.2.map cutT := by rw [← e3]; exact List.mem_map_of_mem hy
    obtain ⟨a, ha', hc⟩ := List.mem_map.1 hm
    exact az_soft (h.a.all y hy) hc.symm (ha a ha')
theorem OwnC.lies' {w : World} {B n cp : Nat} {q : Option Addr} {cs : List Cd} (h : OwnC w B (.slice q n cp) cs) (hn : n = cs.length) : LiesC w q n cp cs := by
  subst hn; exact h.lies
theorem Rz.Own.lies {z : Rz} {w : World} {B : Nat} (h : z.Own w B) : z.In w := ⟨h.c.lies' h.cl, h.a.lies⟩
theorem Rz.Own.turn {z : Rz} {w w' : World} {b B : Nat} (h : z.Own w B) (ht : Turns b w w') (hb : b < B) : z.Own w' B := ⟨h.c.turn ht hb, h.a.turn ht hb, h.cl, h.al, h.m⟩
theorem Rz.Own.on {z : Rz} {w w' : World} {B : Nat} (h : z.Own w B) (hb : Below w.heap.size w w') : z.Own w' B := ⟨h.c.on hb, h.a.on hb, h.cl, h.al, h.m⟩
theorem Rz.Own.mono {z : Rz} {w : World} {B B' : Nat} (h : z.Own w B) (hB : B' ≤ B) : z.Own w B' := ⟨h.c.mono hB, h.a.mono hB, h.cl, h.al, h.m⟩
theorem Rz.Own.four {z : Rz} {w : World} {B g : Nat} (h : z.Own w B) (hg : g < B) (x0 x1 x2 x3 : Value) : z.Own (Sb.four w g x0 x1 x2 x3) B := ⟨h.c.four hg _ _ _ _, h.a.four hg _ _ _ _, h.cl, h.al, h.m⟩
end Go.Proofs.YtcjnhhbcleljmaaGreatDoor.Sb

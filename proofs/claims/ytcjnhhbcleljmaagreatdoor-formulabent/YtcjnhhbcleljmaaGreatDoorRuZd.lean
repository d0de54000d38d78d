/- Joined: RuS RuT RuU RuV RuW RuX RuY RuZ. -/
import Derived.Test.YtcjnhhbcleljmaaGreatDoorRuZb
import Derived.Test.YtcjnhhbcleljmaaGreatDoorRulZb
import Derived.Test.YtcjnhhbcleljmaaGreatDoorAtN
import Derived.Test.YtcjnhhbcleljmaaGreatDoorRuZc
import Derived.Deep.RegionLaw
namespace Go.Proofs.YtcjnhhbcleljmaaGreatDoor.Sb
open Go.RowKit
open V
open Ex (RowO LiesO flatO liesO_own)

/-- The signs that are read: they lie in the world ahead of the reader. -/
structure Sg (w0 : World) (a : Option Addr) (n c : Nat) (xs : List Tm) : Prop where
  env : Env w0
  lies : LiesT w0 a n c xs
  small : Hid (∀ x ∈ xs, x.2.1.size ≤ 20000)
  few : n ≤ 19999
theorem Sg.len {w0 : World} {a : Option Addr} {n c : Nat} {xs : List Tm} (G : Sg w0 a n c xs) : (xs.map ktm).length = n := by rw [List.length_map]; exact G.lies.len.symm
/-- The reader lies in block b, its place is p; what was there ahead of it is as it was. -/
structure Rdr (w0 w : World) (b : Nat) (a : Option Addr) (n c p : Nat) : Prop where
  bel : Below w0.heap.size w0 w
  lo : w0.heap.size ≤ b
  box : w.heap[b]? = some (.cells #[.slice a n c, .int .i64 (p : Int)] 98 (0, 0))
  le : p ≤ n
section
variable {w0 w w' : World} {b : Nat} {a : Option Addr} {n c p : Nat}
theorem Rdr.lt (R : Rdr w0 w b a n c p) : b < w.heap.size := (Array.getElem?_eq_some_iff.1 R.box).1
theorem Rdr.c0 (R : Rdr w0 w b a n c p) : w.cell? ⟨b, 0, none⟩ = some (.slice a n c) := by rw [Lib.cell_of_heap R.box]; rfl
theorem Rdr.c1 (R : Rdr w0 w b a n c p) : w.cell? ⟨b, 1, none⟩ = some (.int .i64 (p : Int)) := by rw [Lib.cell_of_heap R.box]; rfl
theorem Rdr.f1 (R : Rdr w0 w b a n c p) : w.frozen? ⟨b, 1, none⟩ = false := Lib.frozen_of_heap R.box 1
theorem Rdr.on (R : Rdr w0 w b a n c p) (hb : Below w.heap.size w w') : Rdr w0 w' b a n c p := ⟨bt R.bel hb, R.lo, by rw [hb.block b R.lt]; exact R.box, R.le⟩
theorem Rdr.set (R : Rdr w0 w b a n c p) {q : Nat} {i : Int} (hi : i = q) (hq : q ≤ n) : Rdr w0 (w.setCell ⟨b, 1, none⟩ (.int .i64 i)) b a n c q :=
  ⟨R.bel.setCell (p := ⟨b, 1, none⟩) R.lo _, R.lo, by rw [Lib.heap_setCell_same R.box, hi]; rfl, hq⟩
theorem Rdr.eq (R : Rdr w0 w b a n c p) {q : Nat} (h : p = q) : Rdr w0 w b a n c q := h ▸ R
end
/-- Of what was there the block b alone has turned. -/
abbrev Turns (b : Nat) (w w' : World) : Prop := w.grownBy w' (some b)
theorem Turns.of {b : Nat} {w w' : World} (h : Below w.heap.size w w') : Turns b w w' := ⟨h.os, h.tape, h.output, h.size, fun k hk _ => h.block k hk⟩
theorem Turns.refl (b : Nat) (w : World) : Turns b w w := Turns.of (Below.refl _ _)
theorem Turns.set (b : Nat) (w : World) (v : Value) : Turns b w (w.setCell ⟨b, 1, none⟩ v) := by
  have h : Below b w (w.setCell ⟨b, 1, none⟩ v) := (Below.refl b w).setCell (p := ⟨b, 1, none⟩) (Nat.le_refl _) _
  exact ⟨h.os, h.tape, h.output, h.size, fun k _ hne => Below.heap_setCell _ _ _ _ (fun e => hne (by rw [e]))⟩
theorem Turns.tr {b : Nat} {w1 w2 w3 : World} (h : Turns b w1 w2) (k : Turns b w2 w3) : Turns b w1 w3 := World.grownBy.trans h k
theorem Turns.go {b : Nat} {w1 w2 w3 : World} (h : Turns b w1 w2) (k : Below w2.heap.size w2 w3) : Turns b w1 w3 := h.tr (Turns.of k)
/-- What lies below the block is as it was. -/
theorem Turns.below {b B : Nat} {w0 w w' : World} (h : Below B w0 w) (k : Turns b w w') (hB : B ≤ b) (hs : B ≤ w.heap.size) : Below B w0 w' := h.grown k hs (fun m hm => by cases hm; exact hB)

/-- The sign at a place is that one. -/
theorem sign_at {xs : List Tm} {p : Nat} (h : p < xs.length) (k : Int) (s : ByteArray) : decide ((xs.map ktm)[p]? = some (k, s.data.toList)) = decide (xs[p].1 = k ∧ xs[p].2.1 = s) := by
  rw [List.getElem?_map, List.getElem?_eq_getElem h]
  simp only [Option.map_some, ktm, Option.some.injEq, Prod.mk.injEq, decide_eq_decide]
  refine and_congr_right (fun _ => ⟨fun e => ?_, fun e => by rw [e]⟩)
  refine toList_inj.1 ?_
  rw [ByteArray.toList_eq, ByteArray.toList_eq, e]
theorem sign_out {xs : List Tm} {p : Nat} (h : ¬ p < xs.length) (k : Kt) : decide ((xs.map ktm)[p]? = some k) = false := by
  rw [List.getElem?_map, List.getElem?_eq_none (by omega)]
  simp
set_option maxHeartbeats 1000000 in
set_option maxRecDepth 100000 in
theorem is_any {w0 : World} {a : Option Addr} {n c : Nat} {xs : List Tm} (G : Sg w0 a n c xs) {b p : Nat} (k : Int) (s : ByteArray) (q : Bool) (w : World) (R : Rdr w0 w b a n c p) (H : Hid (decide ((xs.map ktm)[p]? = some (k, s.data.toList)) = q)) :
    Calls Tryz.prog 156 #[.pointer (some ⟨b, 0, none⟩), .int .i64 k, .string s] w fun e w' => e = .returned (.bool q) ∧ Below w.heap.size w w' := by
  have hl := G.lies.on R.bel
  have hn := hl.len
  obtain ⟨r0, r1⟩ : _ ∧ _ := ⟨R.c0, R.c1⟩
  clear G R
  by_cases hp : p < xs.length
  · obtain ⟨g, o, ha, hbl, c0, c1, c2, c3⟩ := hl.row.up hp
    subst ha
    have hi := unhide H
    rw [sign_at hp] at hi
    have dl : decide ((p : Int) < (n : Int)) = true := decide_eq_true (by omega)
    have i0 : (0 : Int) ≤ (p : Int) := by omega
    have i1 : (p : Int) < (n : Int) := by omega
    have hc := hl.cap
    generalize xs[p] = x at c0 c1 c2 c3 hi
    clear H hl hn hp
    by_cases h5 : x.1 = k
    · have d5 : (x.1 == k) = true := by rw [h5]; simp
      by_cases hs : x.2.1 = s
      · have ds : (x.2.1.toList == s.toList) = true := by rw [hs]; simp
        have HQ : Hid (true = q) := hide (by rw [← hi]; simp [h5, hs])
        clear hi h5 hs
        go_enter Tryz.func156, Tryz.ntmps156
        go_wp2_with fail
        go_quiet (fail)
        go_wp2_with fail
        go_ret
        exact ⟨ret_bool' (unhide HQ), below_drewN (Below.refl _ _) nq⟩
      · have ds : (x.2.1.toList == s.toList) = false := by rw [bytes_eq]; exact decide_eq_false hs
        have HQ : Hid (false = q) := hide (by rw [← hi]; simp [hs])
        clear hi h5 hs
        go_enter Tryz.func156, Tryz.ntmps156
        go_wp2_with fail
        go_quiet (fail)
        go_wp2_with fail
        go_ret
        exact ⟨ret_bool' (unhide HQ), below_drewN (Below.refl _ _) nq⟩
    · have d5 : (x.1 == k) = false := by rw [beq_eq_false_iff_ne]; exact h5
      have HQ : Hid (false = q) := hide (by rw [← hi]; simp [h5])
      clear hi h5
      go_enter Tryz.func156, Tryz.ntmps156
      go_wp2_with fail
      go_quiet (fail)
      go_wp2_with fail
      go_ret
      exact ⟨ret_bool' (unhide HQ), below_drewN (Below.refl _ _) nq⟩
  · have HQ : Hid (false = q) := hide (by rw [← unhide H, sign_out hp])
    have dl : ¬ p < n := by omega
    clear H hl hn hp
    go_enter Tryz.func156, Tryz.ntmps156
    go_wp2_with fail
    go_quiet (fail)
    go_wp2_with fail
    go_ret
    exact ⟨ret_bool' (unhide HQ), below_drewN (Below.refl _ _) nq⟩
set_option maxHeartbeats 1000000 in
theorem takes_no {w0 : World} {a : Option Addr} {n c : Nat} {xs : List Tm} (G : Sg w0 a n c xs) {b p : Nat} (k : Int) (s : ByteArray) (w : World) (R : Rdr w0 w b a n c p) (H : Hid ((xs.map ktm)[p]? ≠ some (k, s.data.toList))) :
    Calls Tryz.prog 99 #[.pointer (some ⟨b, 0, none⟩), .int .i64 k, .string s] w fun e w' => e = .returned (.bool false) ∧ Below w.heap.size w w' := by
  have F := is_any G k s false w R (hide (decide_eq_false (unhide H)))
  clear G R H
  go_enter Tryz.func99, Tryz.ntmps99
  go_wp2_with fail
  refine F.mono ?_
  rintro e w1 ⟨rfl, hb1⟩
  clear F
  go_wp2_with fail
  go_ret
  exact ⟨rfl, hb1⟩
set_option maxHeartbeats 1000000 in
theorem takes_yes {w0 : World} {a : Option Addr} {n c : Nat} {xs : List Tm} (G : Sg w0 a n c xs) {b p : Nat} (k : Int) (s : ByteArray) (w : World) (R : Rdr w0 w b a n c p) (H : Hid ((xs.map ktm)[p]? = some (k, s.data.toList))) :
    Calls Tryz.prog 99 #[.pointer (some ⟨b, 0, none⟩), .int .i64 k, .string s] w fun e w' => e = .returned (.bool true) ∧ Rdr w0 w' b a n c (p + 1) ∧ Turns b w w' := by
  have F := is_any G k s true w R (hide (decide_eq_true (unhide H)))
  have hpn : p < n := by
    have := (List.getElem?_eq_some_iff.1 (unhide H)).1
    rw [G.len] at this
    exact this
  have hfew := G.few
  clear G H
  go_enter Tryz.func99, Tryz.ntmps99
  go_wp2_with fail
  refine F.mono ?_
  rintro e w1 ⟨rfl, hb1⟩
  have R1 := R.on hb1
  obtain ⟨r1, f1⟩ : _ ∧ _ := ⟨R1.c1, R1.f1⟩
  clear F
  go_wp2_with fail
  go_ret
  exact ⟨rfl, R1.set (by omega) hpn, (Turns.of hb1).tr (Turns.set _ _ _)⟩
end Go.Proofs.YtcjnhhbcleljmaaGreatDoor.Sb
namespace Go.Proofs.YtcjnhhbcleljmaaGreatDoor.Sb
open Go.RowKit
open V
open Ex (RowO LiesO flatO liesO_own)

theorem nameK_out {xs : List Tm} {p : Nat} (h : ¬ p < xs.length) : nameK (xs.map ktm) p = false := by
  unfold nameK; rw [List.getElem?_map, List.getElem?_eq_none (by omega)]; rfl
set_option maxHeartbeats 2000000 in
set_option maxRecDepth 100000 in
theorem isName_any {w0 : World} {a : Option Addr} {n c : Nat} {xs : List Tm} (G : Sg w0 a n c xs) {b p : Nat} (q : Bool) (w : World) (R : Rdr w0 w b a n c p) (H : Hid (nameK (xs.map ktm) p = q)) :
    Calls Tryz.prog 157 #[.pointer (some ⟨b, 0, none⟩)] w fun e w' => e = .returned (.bool q) ∧ Below w.heap.size w w' := by
  have hl := G.lies.on R.bel
  have hn := hl.len
  have hsm := G.small
  obtain ⟨r0, r1⟩ : _ ∧ _ := ⟨R.c0, R.c1⟩
  clear G R
  by_cases hp : p < xs.length
  · obtain ⟨g, o, ha, hbl, c0, c1, c2, c3⟩ := hl.row.up hp
    subst ha
    have hi := unhide H
    rw [nameK_of (List.getElem?_eq_getElem hp)] at hi
    have hz := unhide hsm _ (List.getElem_mem hp)
    have dl : decide ((p : Int) < (n : Int)) = true := decide_eq_true (by omega)
    have i0 : (0 : Int) ≤ (p : Int) := by omega
    have i1 : (p : Int) < (n : Int) := by omega
    have hc := hl.cap
    generalize xs[p] = x at c0 c1 c2 c3 hi hz
    clear H hl hn hp hsm
    have F := fun V => name_any x.2.1 V (by unfold maxLen; omega)
    by_cases h5 : x.1 = 1
    · have d5 : (x.1 == 1) = true := by rw [h5]; rfl
      have HQ : Hid (nameB x.2.1.data.toList = q) := hide (by rw [← hi]; simp [h5])
      clear hi h5 hz
      go_enter Tryz.func157, Tryz.ntmps157
      go_wp2_with fail
      have F1 := cls (wr := w) (fun V _ => F V)
      have g0 := cell_regrown r0
      have g1 := cell_regrown r1
      have g2 := cell_regrown c0
      have g3 := cell_regrown c1
      clear F c0 c1 c2 c3 r0 r1
      refine wp_region_quiet_below (by kernel_rfl) (by kernel_rfl) ?_
      repeat (go_big_quiet_step (with_reducible exact F1 _ _))
      refine wpQuiet_nil ?_
      intro _ hw'
      obtain ⟨⟨dq, osq⟩, hw''⟩ := hw'
      subst hw''
      have hb2 := below_regrown w dq osq
      clear F1 g0 g1 g2 g3
      generalize Sort.grow (redrawn w dq) osq = w9 at hb2
      go_wp2_with fail
      go_ret
      exact ⟨ret_bool' (unhide HQ), hb2⟩
    · have d5 : (x.1 == 1) = false := by rw [beq_eq_false_iff_ne]; exact h5
      have HQ : Hid (false = q) := hide (by rw [← hi]; simp [h5])
      clear hi h5 F
      go_enter Tryz.func157, Tryz.ntmps157
      go_wp2_with fail
      go_quiet (fail)
      go_wp2_with fail
      go_ret
      exact ⟨ret_bool' (unhide HQ), below_drewN (Below.refl _ _) nq⟩
  · have HQ : Hid (false = q) := hide (by rw [← unhide H, nameK_out hp])
    have dl : ¬ p < n := by omega
    clear H hl hn hp hsm
    go_enter Tryz.func157, Tryz.ntmps157
    go_wp2_with fail
    go_quiet (fail)
    go_wp2_with fail
    go_ret
    exact ⟨ret_bool' (unhide HQ), below_drewN (Below.refl _ _) nq⟩

set_option maxHeartbeats 2000000 in
set_option maxRecDepth 100000 in
theorem name_no {w0 : World} {a : Option Addr} {n c : Nat} {xs : List Tm} (G : Sg w0 a n c xs) {b p : Nat} (w : World) (R : Rdr w0 w b a n c p) (H : Hid (nameK (xs.map ktm) p = false)) :
    Calls Tryz.prog 100 #[.pointer (some ⟨b, 0, none⟩)] w fun e w' => e = .returned (.tuple #[.string ⟨#[]⟩, .int .i64 7]) ∧ Below w.heap.size w w' := by
  have F := isName_any G false w R H
  clear G R H
  go_enter Tryz.func100, Tryz.ntmps100
  go_wp2_with fail
  refine F.mono ?_
  rintro e w1 ⟨rfl, hb1⟩
  clear F
  go_wp2_with fail
  refine bodyPost_ret (v := .tuple #[.string ⟨#[]⟩, .int .i64 7]) (by simp [results, Tryz.results100, go_sem]) rfl ?_
  exact ⟨rfl, hb1⟩
set_option maxHeartbeats 2000000 in
set_option maxRecDepth 100000 in
theorem name_yes {w0 : World} {a : Option Addr} {n c : Nat} {xs : List Tm} (G : Sg w0 a n c xs) {b p : Nat} (x : Tm) (w : World) (R : Rdr w0 w b a n c p) (hx : Hid (xs[p]? = some x)) (H : Hid (nameK (xs.map ktm) p = true)) :
    Calls Tryz.prog 100 #[.pointer (some ⟨b, 0, none⟩)] w fun e w' => e = .returned (.tuple #[.string x.2.1, .int .i64 0]) ∧ Rdr w0 w' b a n c (p + 1) ∧ Turns b w w' := by
  have F := isName_any G true w R H
  have hl := G.lies.on R.bel
  have hn := hl.len
  have hp : p < xs.length := (List.getElem?_eq_some_iff.1 (unhide hx)).1
  have hz : x.2.1.size ≤ 20000 := unhide G.small x (List.mem_of_getElem? (unhide hx))
  have hpn : p < n := by omega
  obtain ⟨g, o, ha, hbl, -, c1, -, -⟩ := hl.row.up hp
  rw [show xs[p] = x from (List.getElem?_eq_some_iff.1 (unhide hx)).2] at c1
  subst ha
  have hc := hl.cap
  have hfew := G.few
  have dl : decide ((p : Int) < (n : Int)) = true := decide_eq_true (by omega)
  have i0 : (0 : Int) ≤ (p : Int) := by omega
  have i1 : (p : Int) < (n : Int) := by omega
  clear G H hl hn hp hx
  go_enter Tryz.func100, Tryz.ntmps100
  go_wp2_with fail
  refine F.mono ?_
  rintro e w1 ⟨rfl, hb1⟩
  have R1 := R.on hb1
  have c1' := cell_on hb1 c1
  obtain ⟨r0, r1⟩ : _ ∧ _ := ⟨R1.c0, R1.c1⟩
  clear F c1 R
  go_wp2_with fail
  have FC := cls (wr := w1) (fun V _ => clone_any x.2.1 V hz)
  have qr0 := cell_regrown r0
  have qr1 := cell_regrown r1
  have qc1' := cell_regrown c1'
  refine wp_region_quiet_below (by kernel_rfl) (by kernel_rfl) ?_
  repeat (go_big_quiet_step (with_reducible exact FC _ _))
  refine wpQuiet_nil ?_
  intro _ hww2
  obtain ⟨⟨dq, osq⟩, hxw2⟩ := hww2
  subst hxw2
  have hb2 := below_regrown w1 dq osq
  clear FC qr0 qr1 qc1'
  generalize Sort.grow (redrawn w1 dq) osq = w2 at hb2 ⊢
  have R2 := R1.on hb2
  clear c1' r0 r1
  obtain ⟨r1, f1⟩ : _ ∧ _ := ⟨R2.c1, R2.f1⟩
  go_wp2_with fail
  refine bodyPost_ret (v := .tuple #[.string x.2.1, .int .i64 0]) (by simp [results, Tryz.results100, go_sem]) rfl ?_
  exact ⟨rfl, R2.set (by omega) hpn, (Turns.of (bt hb1 hb2)).tr (Turns.set _ _ _)⟩

theorem readE_num {ks : List Kt} {p : Nat} {v : Int} (h : kN ks p = some v) : readE ks p = .ok ([(2, ⟨#[]⟩, 1, v, ⟨#[]⟩)], p + 1) := by
  unfold kN at h
  cases hp : ks[p]? with
  | none => rw [hp] at h; cases h
  | some t =>
    rw [hp] at h
    simp only at h
    split at h
    case isFalse => cases h
    rename_i h3
    have hT : kT ks p = some (⟨#[]⟩, (1, v, ⟨#[]⟩)) := by
      unfold kT
      rw [hp]
      simp only
      unfold termR
      rw [if_neg (by rw [h3]; decide), if_neg (by rw [h3]; decide), if_pos h3, h]
      rfl
    have hne : ks[p]? ≠ some (5, [40]) := by rw [hp]; intro e; rw [Option.some.inj e] at h3; cases h3
    exact readE_few (readX_at_leaf 15 hne hT) (by simp)
theorem readE_bad {ks : List Kt} {p : Nat} {t : Kt} (hp : ks[p]? = some t) (h3 : t.1 = 3) (h : kN ks p = none) : readE ks p = .error p := by
  unfold kN at h
  rw [hp] at h
  simp only at h
  rw [if_pos h3] at h
  have hT : kT ks p = none := by
    unfold kT
    rw [hp]
    simp only
    unfold termR
    rw [if_neg (by rw [h3]; decide), if_neg (by rw [h3]; decide), if_pos h3, h]
    rfl
  have hne : ks[p]? ≠ some (5, [40]) := by rw [hp]; intro e; rw [Option.some.inj e] at h3; cases h3
  exact readE_none (readX_at_none 15 hne hT)
set_option maxHeartbeats 2000000 in
set_option maxRecDepth 100000 in
theorem number_no {w0 : World} {a : Option Addr} {n c : Nat} {xs : List Tm} (G : Sg w0 a n c xs) {b p : Nat} (m : Int) (w : World) (R : Rdr w0 w b a n c p) (H : Hid (kN (xs.map ktm) p = none)) :
    Calls Tryz.prog 101 #[.pointer (some ⟨b, 0, none⟩), .int .i64 m] w fun e w' => e = .returned (.tuple #[.int .i64 0, .int .i64 7]) ∧ Below w.heap.size w w' := by
  have hl := G.lies.on R.bel
  have hn := hl.len
  by_cases hp : p < xs.length
  · obtain ⟨g, o, ha, hbl, c0, -, -, -⟩ := hl.row.up hp
    subst ha
    have dl : ¬ n ≤ p := by omega
    have i0 : (0 : Int) ≤ (p : Int) := by omega
    have i1 : (p : Int) < (n : Int) := by omega
    have hc := hl.cap
    obtain ⟨r0, r1⟩ : _ ∧ _ := ⟨R.c0, R.c1⟩
    by_cases h3 : xs[p].1 = 3
    · have d3 : (xs[p].1 != 3) = false := by simp [h3]
      have HE := hide (readE_bad (ks := xs.map ktm) (p := p) (t := ktm xs[p]) (by rw [List.getElem?_map, List.getElem?_eq_getElem hp]; rfl) h3 (unhide H))
      have F := fun V (hV : Below w.heap.size w V) => rexpr_no _ n c xs p p V (G.env.on (bt R.bel hV)) (hl.on hV) G.small G.few (by omega) HE
      generalize xs[p].1 = k at c0 d3
      clear G H hl hn hp h3 R
      go_enter Tryz.func101, Tryz.ntmps101
      go_wp2_with fail
      go_quiet (fail)
      have hb1 := below_drewN (Below.refl w.heap.size w) nq
      generalize w.drewN nq = w1 at hb1 ⊢
      have r0' := cell_on hb1 r0
      have r1' := cell_on hb1 r1
      have FC := cls (wr := w1) (fun V hV => F V (bt hb1 hV))
      clear r0 r1 c0 F
      go_wp2_with fail
      have qr0' := cell_regrown r0'
      have qr1' := cell_regrown r1'
      refine wp_region_quiet_below (by kernel_rfl) (by kernel_rfl) ?_
      repeat (go_big_quiet_step (with_reducible exact FC _ _))
      refine wpQuiet_nil ?_
      intro _ hww2
      obtain ⟨⟨dq, osq⟩, hxw2⟩ := hww2
      subst hxw2
      have hb2 := below_regrown w1 dq osq
      clear FC qr0' qr1'
      generalize Sort.grow (redrawn w1 dq) osq = w2 at hb2 ⊢
      clear r0' r1'
      go_wp2_with fail
      refine bodyPost_ret (v := .tuple #[.int .i64 0, .int .i64 7]) (by simp [results, Tryz.results101, go_sem]) rfl ?_
      exact ⟨rfl, bt hb1 hb2⟩
    · have d3 : (xs[p].1 != 3) = true := by simp [h3]
      generalize xs[p].1 = k at c0 d3
      clear G H hl hn hp h3 R
      go_enter Tryz.func101, Tryz.ntmps101
      go_wp2_with fail
      go_quiet (fail)
      have hb1 := below_drewN (Below.refl w.heap.size w) nq
      generalize w.drewN nq = w1 at hb1 ⊢
      clear r0 r1 c0
      go_wp2_with fail
      refine bodyPost_ret (v := .tuple #[.int .i64 0, .int .i64 7]) (by simp [results, Tryz.results101, go_sem]) rfl ?_
      exact ⟨rfl, hb1⟩
  · have dl : n ≤ p := by omega
    obtain ⟨r0, r1⟩ : _ ∧ _ := ⟨R.c0, R.c1⟩
    clear G H hl hn hp R
    go_enter Tryz.func101, Tryz.ntmps101
    go_wp2_with fail
    go_quiet (fail)
    have hb1 := below_drewN (Below.refl w.heap.size w) nq
    generalize w.drewN nq = w1 at hb1 ⊢
    clear r0 r1
    go_wp2_with fail
    refine bodyPost_ret (v := .tuple #[.int .i64 0, .int .i64 7]) (by simp [results, Tryz.results101, go_sem]) rfl ?_
    exact ⟨rfl, hb1⟩
end Go.Proofs.YtcjnhhbcleljmaaGreatDoor.Sb
namespace Go.Proofs.YtcjnhhbcleljmaaGreatDoor.Sb
open Go.RowKit
open V
open Ex (RowO LiesO flatO liesO_own)

set_option maxHeartbeats 2000000 in
set_option maxRecDepth 100000 in
theorem number_low {w0 : World} {a : Option Addr} {n c : Nat} {xs : List Tm} (G : Sg w0 a n c xs) {b p : Nat} (m v : Int) (w : World) (R : Rdr w0 w b a n c p) (H : Hid (kN (xs.map ktm) p = some v)) (hv : v < m) :
    Calls Tryz.prog 101 #[.pointer (some ⟨b, 0, none⟩), .int .i64 m] w fun e w' => e = .returned (.tuple #[.int .i64 0, .int .i64 7]) ∧ Below w.heap.size w w' := by
  have hl := G.lies.on R.bel
  have hn := hl.len
  have hp : p < xs.length := by have := kN_lt (unhide H); rwa [List.length_map] at this
  obtain ⟨g, o, ha, hbl, c0, -, -, -⟩ := hl.row.up hp
  subst ha
  have dl : ¬ n ≤ p := by omega
  have i0 : (0 : Int) ≤ (p : Int) := by omega
  have i1 : (p : Int) < (n : Int) := by omega
  have hc := hl.cap
  obtain ⟨r0, r1⟩ : _ ∧ _ := ⟨R.c0, R.c1⟩
  have h3 : xs[p].1 = 3 := by
    have h := unhide H
    unfold kN at h
    rw [List.getElem?_map, List.getElem?_eq_getElem hp] at h
    simp only [Option.map_some] at h
    split at h
    · assumption
    · cases h
  have d3 : (xs[p].1 != 3) = false := by simp [h3]
  have dv : decide (v < m) = true := decide_eq_true hv
  have HE := hide (readE_num (unhide H))
  have F := fun V (hV : Below w.heap.size w V) => rexpr_ok _ n c xs p _ V (G.env.on (bt R.bel hV)) (hl.on hV) G.small G.few (by omega) HE
  generalize xs[p].1 = k at c0 d3
  clear G H hl hn hp h3 R hv
  go_enter Tryz.func101, Tryz.ntmps101
  go_wp2_with fail
  go_quiet (fail)
  have hb1 := below_drewN (Below.refl w.heap.size w) nq
  generalize w.drewN nq = w1 at hb1 ⊢
  have r0' := cell_on hb1 r0
  have r1' := cell_on hb1 r1
  clear r0 r1 c0
  go_wp2_with fail
  go_region_law (go_simp; go_at_call 158; refine (F _ hb1.drew).mono ?_; rintro e w2 ⟨⟨a', n', c', rfl, ho⟩, hb2⟩; have hL := liesO_own ho; have hn1 : n' = 1 := hL.len; subst hn1; obtain ⟨g', o', ha', hbl', -, -, -, x3, -⟩ := (LiesO.row hL).up (i := 0) (by simp); subst ha'; simp only [Nat.zero_mul, Nat.add_zero, List.getElem_cons_zero] at x3; have hc' := LiesO.cap hL)
  all_goals
    have hw2 := bt hb1.drew hb2
    go_wp2_with fail
    refine bodyPost_ret (v := .tuple #[.int .i64 0, .int .i64 7]) (by simp [results, Tryz.results101, go_sem]) rfl ?_
    exact ⟨rfl, hw2⟩
set_option maxHeartbeats 2000000 in
set_option maxRecDepth 100000 in
theorem number_yes {w0 : World} {a : Option Addr} {n c : Nat} {xs : List Tm} (G : Sg w0 a n c xs) {b p : Nat} (m v : Int) (w : World) (R : Rdr w0 w b a n c p) (H : Hid (kN (xs.map ktm) p = some v)) (hv : ¬ v < m) :
    Calls Tryz.prog 101 #[.pointer (some ⟨b, 0, none⟩), .int .i64 m] w fun e w' => e = .returned (.tuple #[.int .i64 v, .int .i64 0]) ∧ Rdr w0 w' b a n c (p + 1) ∧ Turns b w w' := by
  have hl := G.lies.on R.bel
  have hn := hl.len
  have hp : p < xs.length := by have := kN_lt (unhide H); rwa [List.length_map] at this
  obtain ⟨g, o, ha, hbl, c0, -, -, -⟩ := hl.row.up hp
  subst ha
  have dl : ¬ n ≤ p := by omega
  have i0 : (0 : Int) ≤ (p : Int) := by omega
  have i1 : (p : Int) < (n : Int) := by omega
  have hc := hl.cap
  obtain ⟨r0, r1⟩ : _ ∧ _ := ⟨R.c0, R.c1⟩
  have h3 : xs[p].1 = 3 := by
    have h := unhide H
    unfold kN at h
    rw [List.getElem?_map, List.getElem?_eq_getElem hp] at h
    simp only [Option.map_some] at h
    split at h
    · assumption
    · cases h
  have d3 : (xs[p].1 != 3) = false := by simp [h3]
  have dv : decide (v < m) = false := decide_eq_false hv
  have hpn : p < n := by omega
  have hblt := R.lt
  have HE := hide (readE_num (unhide H))
  have F := fun V (hV : Below w.heap.size w V) => rexpr_ok _ n c xs p _ V (G.env.on (bt R.bel hV)) (hl.on hV) G.small G.few (by omega) HE
  generalize xs[p].1 = k at c0 d3
  clear G H hl hn hp h3 hv
  go_enter Tryz.func101, Tryz.ntmps101
  go_wp2_with fail
  go_quiet (fail)
  have hb1 := below_drewN (Below.refl w.heap.size w) nq
  generalize w.drewN nq = w1 at hb1 ⊢
  have r0' := cell_on hb1 r0
  have r1' := cell_on hb1 r1
  have R1 := R.on hb1
  clear r0 r1 c0
  go_wp2_with fail
  go_region_law (go_simp; go_at_call 158; refine (F _ hb1.drew).mono ?_; rintro e w2 ⟨⟨a', n', c', rfl, ho⟩, hb2⟩; have hL := liesO_own ho; have hn1 : n' = 1 := hL.len; subst hn1; obtain ⟨g', o', ha', hbl', -, -, -, x3, -⟩ := (LiesO.row hL).up (i := 0) (by simp); subst ha'; simp only [Nat.zero_mul, Nat.add_zero, List.getElem_cons_zero] at x3; have hc' := LiesO.cap hL; have R2 := (R1.on (Below.refl _ _).drew).on hb2; obtain ⟨s1, f1⟩ : _ ∧ _ := ⟨R2.c1, R2.f1⟩; have hne : g' ≠ b := (fun e => by have h := (ho.lt g' rfl).1; have h2 := hb1.size; rw [e] at h; simp at h; omega))
  all_goals
    have hw2 := bt hb1.drew hb2
    go_wp2_with fail
    refine bodyPost_ret (v := .tuple #[.int .i64 v, .int .i64 0]) (by simp [results, Tryz.results101, go_sem]) rfl ?_
    exact ⟨rfl, R2.set (by omega) hpn, (Turns.of hw2).tr (Turns.set _ _ _)⟩
end Go.Proofs.YtcjnhhbcleljmaaGreatDoor.Sb
namespace Go.Proofs.YtcjnhhbcleljmaaGreatDoor.Sb
open Go.RowKit
open V
open Ex (RowO LiesO flatO liesO_own)

set_option maxHeartbeats 1000000 in
theorem rmark_any (k : Int) (s : ByteArray) (w : World) (H : Hid ((⟨(howL k).toArray⟩ : ByteArray) = s)) :
    Calls Tryz.prog 97 #[.int .i64 k] w fun e w' => e = .returned (.string s) ∧ w' = w := by
  have h := unhide H
  by_cases h1 : k = 1
  · subst h1
    subst h
    clear H
    go_enter Tryz.func97, Tryz.ntmps97
    go_wp2_with fail
    go_ret
    exact ⟨rfl, rfl⟩
  by_cases h2 : k = 2
  · subst h2
    subst h
    clear H h1
    go_enter Tryz.func97, Tryz.ntmps97
    go_wp2_with fail
    go_ret
    exact ⟨rfl, rfl⟩
  by_cases h3 : k = 3
  · subst h3
    subst h
    clear H h1 h2
    go_enter Tryz.func97, Tryz.ntmps97
    go_wp2_with fail
    go_ret
    exact ⟨rfl, rfl⟩
  have d1 : (k == 1) = false := by rw [beq_eq_false_iff_ne]; exact h1
  have d2 : (k == 2) = false := by rw [beq_eq_false_iff_ne]; exact h2
  have d3 : (k == 3) = false := by rw [beq_eq_false_iff_ne]; exact h3
  have HS : Hid ((⟨#[60, 61]⟩ : ByteArray) = s) := hide (by rw [← h]; unfold howL; rw [if_neg h1, if_neg h2, if_neg h3])
  clear h H h1 h2 h3
  go_enter Tryz.func97, Tryz.ntmps97
  go_wp2_with fail
  go_ret
  exact ⟨by rw [← unhide HS]; rfl, rfl⟩
theorem kH_is (ks : List Kt) (p : Nat) : kH ks p = if decide (ks[p]? = some (5, [61])) = true then some 1 else if decide (ks[p]? = some (5, [33, 61])) = true then some 2 else if decide (ks[p]? = some (5, [60])) = true then some 3 else if decide (ks[p]? = some (5, [60, 61])) = true then some 4 else none := by
  unfold kH
  cases h : ks[p]? with
  | none => simp
  | some x =>
    simp only [Option.some.injEq, decide_eq_true_eq]
    rfl
/-- What reader.how answers. -/
def HowRes (w0 w : World) (b : Nat) (a : Option Addr) (n c p : Nat) (o : Option Int) (e : Ending) (w' : World) : Prop := match o with
  | some h => e = .returned (.tuple #[.int .i64 h, .int .i64 0]) ∧ Rdr w0 w' b a n c (p + 1) ∧ Turns b w w'
  | none => e = .returned (.tuple #[.int .i64 0, .int .i64 7]) ∧ Below w.heap.size w w'
theorem hin0 (w : World) : (Instr.index 260 (Value.agg #[Value.int IntKind.i64 1, Value.int IntKind.i64 2, Value.int IntKind.i64 3, Value.int IntKind.i64 4]) (.int .i64 0)).run Tryz.prog w = .ok (Value.int .i64 1) w := by kernel_rfl
theorem hin1 (w : World) : (Instr.index 260 (Value.agg #[Value.int IntKind.i64 1, Value.int IntKind.i64 2, Value.int IntKind.i64 3, Value.int IntKind.i64 4]) (.int .i64 1)).run Tryz.prog w = .ok (Value.int .i64 2) w := by kernel_rfl
theorem hin2 (w : World) : (Instr.index 260 (Value.agg #[Value.int IntKind.i64 1, Value.int IntKind.i64 2, Value.int IntKind.i64 3, Value.int IntKind.i64 4]) (.int .i64 2)).run Tryz.prog w = .ok (Value.int .i64 3) w := by kernel_rfl
theorem hin3 (w : World) : (Instr.index 260 (Value.agg #[Value.int IntKind.i64 1, Value.int IntKind.i64 2, Value.int IntKind.i64 3, Value.int IntKind.i64 4]) (.int .i64 3)).run Tryz.prog w = .ok (Value.int .i64 4) w := by kernel_rfl
set_option maxHeartbeats 4000000 in
set_option maxRecDepth 100000 in
theorem how_any {w0 : World} {a : Option Addr} {n c : Nat} {xs : List Tm} (G : Sg w0 a n c xs) {b p : Nat} (o : Option Int) (w : World) (R : Rdr w0 w b a n c p) (H : Hid (kH (xs.map ktm) p = o)) :
    Calls Tryz.prog 194 #[.pointer (some ⟨b, 0, none⟩)] w fun e w' => HowRes w0 w b a n c p o e w' := by
  obtain ⟨b0, H0⟩ : ∃ q, Hid (decide ((xs.map ktm)[p]? = some (5, [61])) = q) := ⟨_, hide rfl⟩
  obtain ⟨b1, H1⟩ : ∃ q, Hid (decide ((xs.map ktm)[p]? = some (5, [33, 61])) = q) := ⟨_, hide rfl⟩
  obtain ⟨b2, H2⟩ : ∃ q, Hid (decide ((xs.map ktm)[p]? = some (5, [60])) = q) := ⟨_, hide rfl⟩
  obtain ⟨b3, H3⟩ : ∃ q, Hid (decide ((xs.map ktm)[p]? = some (5, [60, 61])) = q) := ⟨_, hide rfl⟩
  have HM : Hid ((if b0 = true then some 1 else if b1 = true then some 2 else if b2 = true then some 3 else if b3 = true then some 4 else none) = o) := by
    refine hide ?_
    rw [← unhide H, kH_is, unhide H0, unhide H1, unhide H2, unhide H3]
  clear H
  go_enter Tryz.func194, Tryz.ntmps194
  go_wp2_with fail
  go_loopw [7] (fun c wr => ∃ k : Nat, k ≤ 4 ∧ c = .int .i64 k ∧ Hid ((1 ≤ k → b0 = false) ∧ (2 ≤ k → b1 = false) ∧ (3 ≤ k → b2 = false) ∧ (4 ≤ k → b3 = false)) ∧ Below w.heap.size w wr) (fun c _ => 4 - (intOf c).toNat)
  case atStart => exact ⟨0, by omega, rfl, hide ⟨by omega, by omega, by omega, by omega⟩, Below.refl _ _⟩
  case round =>
    obtain ⟨k, hk, rfl, HB, hbw⟩ := hrel
    have R1 := R.on hbw
    rcases (show k = 0 ∨ k = 1 ∨ k = 2 ∨ k = 3 ∨ k = 4 by omega) with rfl | rfl | rfl | rfl | rfl
    · clear H1 H2 H3
      cases b0
      · go_wp2_with fail
        rw [hin0]
        simp only [Result.andThen]
        rw [Oper.upon_value]
        go_wp2_with fail
        refine (rmark_any 1 ⟨#[61]⟩ _ (hide rfl)).mono ?_
        rintro e w1 ⟨rfl, hw1⟩
        subst w1
        go_wp2_with fail
        refine (takes_no G 5 ⟨#[61]⟩ _ R1 (hide (of_decide_eq_false (unhide H0)))).mono ?_
        rintro e w2 ⟨rfl, hb2⟩
        have hbw2 := bt hbw hb2
        clear R1 hbw hb2
        go_wp2_with fail
        go_roundw
        case rel => exact ⟨1, by omega, by go_num, hide ⟨by simp, by omega, by omega, by omega⟩, hbw2⟩
        case measure => simp [intOf]
      · go_wp2_with fail
        rw [hin0]
        simp only [Result.andThen]
        rw [Oper.upon_value]
        go_wp2_with fail
        refine (rmark_any 1 ⟨#[61]⟩ _ (hide rfl)).mono ?_
        rintro e w1 ⟨rfl, hw1⟩
        subst w1
        go_wp2_with fail
        refine (takes_yes G 5 ⟨#[61]⟩ _ R1 (hide (of_decide_eq_true (unhide H0)))).mono ?_
        rintro e w2 ⟨rfl, R2, ht2⟩
        have ht := (Turns.of (b := b) hbw).tr ht2
        clear R1 hbw ht2
        go_wp2_with fail
        refine bodyPost_ret (v := .tuple #[.int .i64 1, .int .i64 0]) (by simp [results, Tryz.results194, go_sem]) rfl ?_
        rw [← unhide HM]
        exact ⟨rfl, R2, ht⟩
    · obtain ⟨x0, -, -, -⟩ := unhide HB
      have x0 := x0 (by omega)
      subst x0
      clear H0 H2 H3
      cases b1
      · go_wp2_with fail
        rw [hin1]
        simp only [Result.andThen]
        rw [Oper.upon_value]
        go_wp2_with fail
        refine (rmark_any 2 ⟨#[33, 61]⟩ _ (hide rfl)).mono ?_
        rintro e w1 ⟨rfl, hw1⟩
        subst w1
        go_wp2_with fail
        refine (takes_no G 5 ⟨#[33, 61]⟩ _ R1 (hide (of_decide_eq_false (unhide H1)))).mono ?_
        rintro e w2 ⟨rfl, hb2⟩
        have hbw2 := bt hbw hb2
        clear R1 hbw hb2
        go_wp2_with fail
        go_roundw
        case rel => exact ⟨2, by omega, by go_num, hide ⟨by simp, by simp, by omega, by omega⟩, hbw2⟩
        case measure => simp [intOf]
      · go_wp2_with fail
        rw [hin1]
        simp only [Result.andThen]
        rw [Oper.upon_value]
        go_wp2_with fail
        refine (rmark_any 2 ⟨#[33, 61]⟩ _ (hide rfl)).mono ?_
        rintro e w1 ⟨rfl, hw1⟩
        subst w1
        go_wp2_with fail
        refine (takes_yes G 5 ⟨#[33, 61]⟩ _ R1 (hide (of_decide_eq_true (unhide H1)))).mono ?_
        rintro e w2 ⟨rfl, R2, ht2⟩
        have ht := (Turns.of (b := b) hbw).tr ht2
        clear R1 hbw ht2
        go_wp2_with fail
        refine bodyPost_ret (v := .tuple #[.int .i64 2, .int .i64 0]) (by simp [results, Tryz.results194, go_sem]) rfl ?_
        rw [← unhide HM]
        exact ⟨rfl, R2, ht⟩
    · obtain ⟨x0, x1, -, -⟩ := unhide HB
      have x0 := x0 (by omega)
      have x1 := x1 (by omega)
      subst x0 x1
      clear H0 H1 H3
      cases b2
      · go_wp2_with fail
        rw [hin2]
        simp only [Result.andThen]
        rw [Oper.upon_value]
        go_wp2_with fail
        refine (rmark_any 3 ⟨#[60]⟩ _ (hide rfl)).mono ?_
        rintro e w1 ⟨rfl, hw1⟩
        subst w1
        go_wp2_with fail
        refine (takes_no G 5 ⟨#[60]⟩ _ R1 (hide (of_decide_eq_false (unhide H2)))).mono ?_
        rintro e w2 ⟨rfl, hb2⟩
        have hbw2 := bt hbw hb2
        clear R1 hbw hb2
        go_wp2_with fail
        go_roundw
        case rel => exact ⟨3, by omega, by go_num, hide ⟨by simp, by simp, by simp, by omega⟩, hbw2⟩
        case measure => simp [intOf]
      · go_wp2_with fail
        rw [hin2]
        simp only [Result.andThen]
        rw [Oper.upon_value]
        go_wp2_with fail
        refine (rmark_any 3 ⟨#[60]⟩ _ (hide rfl)).mono ?_
        rintro e w1 ⟨rfl, hw1⟩
        subst w1
        go_wp2_with fail
        refine (takes_yes G 5 ⟨#[60]⟩ _ R1 (hide (of_decide_eq_true (unhide H2)))).mono ?_
        rintro e w2 ⟨rfl, R2, ht2⟩
        have ht := (Turns.of (b := b) hbw).tr ht2
        clear R1 hbw ht2
        go_wp2_with fail
        refine bodyPost_ret (v := .tuple #[.int .i64 3, .int .i64 0]) (by simp [results, Tryz.results194, go_sem]) rfl ?_
        rw [← unhide HM]
        exact ⟨rfl, R2, ht⟩
    · obtain ⟨x0, x1, x2, -⟩ := unhide HB
      have x0 := x0 (by omega)
      have x1 := x1 (by omega)
      have x2 := x2 (by omega)
      subst x0 x1 x2
      clear H0 H1 H2
      cases b3
      · go_wp2_with fail
        rw [hin3]
        simp only [Result.andThen]
        rw [Oper.upon_value]
        go_wp2_with fail
        refine (rmark_any 4 ⟨#[60, 61]⟩ _ (hide rfl)).mono ?_
        rintro e w1 ⟨rfl, hw1⟩
        subst w1
        go_wp2_with fail
        refine (takes_no G 5 ⟨#[60, 61]⟩ _ R1 (hide (of_decide_eq_false (unhide H3)))).mono ?_
        rintro e w2 ⟨rfl, hb2⟩
        have hbw2 := bt hbw hb2
        clear R1 hbw hb2
        go_wp2_with fail
        go_roundw
        case rel => exact ⟨4, by omega, by go_num, hide ⟨by simp, by simp, by simp, by simp⟩, hbw2⟩
        case measure => simp [intOf]
      · go_wp2_with fail
        rw [hin3]
        simp only [Result.andThen]
        rw [Oper.upon_value]
        go_wp2_with fail
        refine (rmark_any 4 ⟨#[60, 61]⟩ _ (hide rfl)).mono ?_
        rintro e w1 ⟨rfl, hw1⟩
        subst w1
        go_wp2_with fail
        refine (takes_yes G 5 ⟨#[60, 61]⟩ _ R1 (hide (of_decide_eq_true (unhide H3)))).mono ?_
        rintro e w2 ⟨rfl, R2, ht2⟩
        have ht := (Turns.of (b := b) hbw).tr ht2
        clear R1 hbw ht2
        go_wp2_with fail
        refine bodyPost_ret (v := .tuple #[.int .i64 4, .int .i64 0]) (by simp [results, Tryz.results194, go_sem]) rfl ?_
        rw [← unhide HM]
        exact ⟨rfl, R2, ht⟩
    · obtain ⟨x0, x1, x2, x3⟩ := unhide HB
      have x0 := x0 (by omega)
      have x1 := x1 (by omega)
      have x2 := x2 (by omega)
      have x3 := x3 (by omega)
      subst x0 x1 x2 x3
      clear R1
      go_wp2_with fail
      refine bodyPost_ret (v := .tuple #[.int .i64 0, .int .i64 7]) (by simp [results, Tryz.results194, go_sem]) rfl ?_
      rw [← unhide HM]
      exact ⟨rfl, hbw⟩
end Go.Proofs.YtcjnhhbcleljmaaGreatDoor.Sb
namespace Go.Proofs.YtcjnhhbcleljmaaGreatDoor.Sb
open Go.RowKit
open V
open Ex (RowO LiesO flatO liesO_own)

/-- The place that the reader in a block is at. -/
def placeOf (b : Nat) (w : World) : Nat := match w.cell? ⟨b, 1, none⟩ with
  | some v => (intOf v).toNat
  | none => 0
theorem Rdr.place {w0 w : World} {b : Nat} {a : Option Addr} {n c p : Nat} (R : Rdr w0 w b a n c p) : placeOf b w = p := by
  unfold placeOf
  rw [R.c1]
  simp [intOf]
/-- What reader.passBrackets answers. -/
def PassRes (w0 w : World) (b : Nat) (a : Option Addr) (n c : Nat) (r : Except (Option Nat) Nat) (e : Ending) (w' : World) : Prop := match r with
  | .ok q => e = .returned (.int .i64 0) ∧ Rdr w0 w' b a n c q ∧ Turns b w w'
  | .error none => e = .returned (.int .i64 2) ∧ (∃ q, Rdr w0 w' b a n c q) ∧ Turns b w w'
  | .error (some _) => True
theorem pass_step_open {ks : List Kt} {q o : Nat} (h : ks[q]? = some (5, [40])) (ho : o < 15) : passP o (ks.drop q) q = passP (o + 1) (ks.drop (q + 1)) (q + 1) := by
  rw [drop_at h, passP_open ho]
theorem pass_step_deep {ks : List Kt} {q : Nat} (h : ks[q]? = some (5, [40])) : passP 15 (ks.drop q) q = .error none := by
  rw [drop_at h, passP_deep]
theorem pass_step_last {ks : List Kt} {q : Nat} (h : ks[q]? = some (5, [41])) : passP 1 (ks.drop q) q = .ok (q + 1) := by
  rw [drop_at h, passP_last]
theorem pass_step_shut {ks : List Kt} {q o : Nat} (h : ks[q]? = some (5, [41])) (ho : 2 ≤ o) : passP o (ks.drop q) q = passP (o - 1) (ks.drop (q + 1)) (q + 1) := by
  rw [drop_at h, passP_shut ho]
theorem pass_step_on {ks : List Kt} {q o : Nat} (hq : q < ks.length) (h1 : ks[q]? ≠ some (5, [40])) (h2 : ks[q]? ≠ some (5, [41])) (ho : 1 ≤ o) : passP o (ks.drop q) q = passP o (ks.drop (q + 1)) (q + 1) := by
  have e : ks[q]? = some ks[q] := List.getElem?_eq_getElem hq
  rw [drop_at e, passP_on ho (fun h => h1 (by rw [e, h])) (fun h => h2 (by rw [e, h]))]
theorem pass_step_end {ks : List Kt} {q o : Nat} (hq : ¬ q < ks.length) : passP o (ks.drop q) q = .error (some q) := by
  rw [List.drop_eq_nil_of_le (by omega)]; rfl
set_option maxHeartbeats 4000000 in
set_option maxRecDepth 100000 in
theorem pass_any {w0 : World} {a : Option Addr} {n c : Nat} {xs : List Tm} (G : Sg w0 a n c xs) {b p : Nat} (r : Except (Option Nat) Nat) (w : World) (R : Rdr w0 w b a n c p) (h0 : Hid ((xs.map ktm)[p]? = some (5, [40]))) (H : Hid (passP 0 ((xs.map ktm).drop p) p = r)) :
    Calls Tryz.prog 195 #[.pointer (some ⟨b, 0, none⟩)] w fun e w' => PassRes w0 w b a n c r e w' := by
  have hlen := G.len
  have hfew := G.few
  go_enter Tryz.func195, Tryz.ntmps195
  go_wp2_with fail
  go_loopw [3] (fun x wr => ∃ o q : Nat, x = .int .i64 (o : Int) ∧ o ≤ 15 ∧ Hid (o = 0 → (xs.map ktm)[q]? = some (5, [40])) ∧ Hid (passP o ((xs.map ktm).drop q) q = r) ∧ Rdr w0 wr b a n c q ∧ Turns b w wr) (fun _ wr => n - placeOf b wr)
  case atStart => exact ⟨0, p, rfl, by omega, hide (fun _ => unhide h0), H, R, Turns.refl _ _⟩
  case round =>
    obtain ⟨o, q, rfl, ho, HO, HR, R1, ht⟩ := hrel
    clear R H h0
    by_cases hq : q < n
    case neg =>
      have HE := hide ((unhide HR).symm.trans (pass_step_end (o := o) (by omega)))
      have dl : ¬ q < n := hq
      obtain ⟨r0, r1⟩ : _ ∧ _ := ⟨R1.c0, R1.c1⟩
      clear HR HO
      go_wp2_with fail
      go_quiet (fail)
      go_wp2_with fail
      refine bodyPost_ret (v := .int .i64 7) (by simp [results, Tryz.results195, go_sem]) rfl ?_
      rw [unhide HE]
      trivial
    have dl : q < n := hq
    obtain ⟨r0, r1⟩ : _ ∧ _ := ⟨R1.c0, R1.c1⟩
    by_cases h1 : (xs.map ktm)[q]? = some (5, [40])
    · have HA := hide h1
      by_cases hd : o = 15
      · subst hd
        have HE := hide ((unhide HR).symm.trans (pass_step_deep h1))
        clear HR HO h1
        go_wp2_with fail
        go_quiet (fail)
        have hb1 := below_drewN (Below.refl wr.heap.size wr) nq
        generalize wr.drewN nq = w1 at hb1 ⊢
        have R2 := R1.on hb1
        clear r0 r1
        go_wp2_with fail
        refine (is_any G 5 ⟨#[40]⟩ true _ R2 (hide (decide_eq_true (unhide HA)))).mono ?_
        rintro e w2 ⟨rfl, hb2⟩
        have R3 := R2.on hb2
        obtain ⟨r1, f1⟩ : _ ∧ _ := ⟨R3.c1, R3.f1⟩
        clear R1 R2
        go_wp2_with fail
        refine bodyPost_ret (v := .int .i64 2) (by simp [results, Tryz.results195, go_sem]) rfl ?_
        rw [unhide HE]
        exact ⟨rfl, ⟨q + 1, R3.set (by omega) (by omega)⟩, (ht.go (bt hb1 hb2)).tr (Turns.set _ _ _)⟩
      · have ho' : o < 15 := by omega
        have HE := hide ((pass_step_open h1 ho').symm.trans (unhide HR))
        have o1 : ¬ ((o : Int) + 1 = 0) := by omega
        have o2 : ¬ (15 < (o : Int) + 1) := by omega
        clear HR HO h1 hd
        go_wp2_with fail
        go_quiet (fail)
        have hb1 := below_drewN (Below.refl wr.heap.size wr) nq
        generalize wr.drewN nq = w1 at hb1 ⊢
        have R2 := R1.on hb1
        clear r0 r1
        go_wp2_with fail
        refine (is_any G 5 ⟨#[40]⟩ true _ R2 (hide (decide_eq_true (unhide HA)))).mono ?_
        rintro e w2 ⟨rfl, hb2⟩
        have R3 := R2.on hb2
        obtain ⟨r1, f1⟩ : _ ∧ _ := ⟨R3.c1, R3.f1⟩
        have R4 := R3.set (q := q + 1) (i := (q : Int) + 1) (by omega) (by omega)
        have ht4 := (ht.go (bt hb1 hb2)).tr (Turns.set b w2 (.int .i64 ((q : Int) + 1)))
        have hp1 := R1.place
        have hp4 := R4.place
        clear R1 R2 HA
        go_wp2_with fail
        go_roundw
        case rel => exact ⟨o + 1, q + 1, by go_num, ho', hide (fun h => by omega), HE, R4, ht4⟩
        case measure => rw [hp1, hp4]; omega
    · have ho0 : 1 ≤ o := by
        refine Nat.pos_of_ne_zero (fun e => h1 (unhide HO e))
      have HA := hide h1
      by_cases h2 : (xs.map ktm)[q]? = some (5, [41])
      · have HB := hide h2
        by_cases hd : o = 1
        · subst hd
          have HE := hide ((unhide HR).symm.trans (pass_step_last h2))
          clear HR HO h1 h2
          go_wp2_with fail
          go_quiet (fail)
          have hb1 := below_drewN (Below.refl wr.heap.size wr) nq
          generalize wr.drewN nq = w1 at hb1 ⊢
          have R2 := R1.on hb1
          clear r0 r1
          go_wp2_with fail
          refine (is_any G 5 ⟨#[40]⟩ false _ R2 (hide (decide_eq_false (unhide HA)))).mono ?_
          rintro e w2 ⟨rfl, hb2⟩
          have R3 := R2.on hb2
          clear R1 R2
          go_wp2_with fail
          refine (is_any G 5 ⟨#[41]⟩ true _ R3 (hide (decide_eq_true (unhide HB)))).mono ?_
          rintro e w3 ⟨rfl, hb3⟩
          have R4 := R3.on hb3
          obtain ⟨r1, f1⟩ : _ ∧ _ := ⟨R4.c1, R4.f1⟩
          clear R3
          go_wp2_with fail
          refine bodyPost_ret (v := .int .i64 0) (by simp [results, Tryz.results195, go_sem]) rfl ?_
          rw [unhide HE]
          exact ⟨rfl, R4.set (by omega) (by omega), (ht.go (bt (bt hb1 hb2) hb3)).tr (Turns.set _ _ _)⟩
        · have ho2 : 2 ≤ o := by omega
          have HE := hide ((pass_step_shut h2 ho2).symm.trans (unhide HR))
          have o1 : ¬ ((o : Int) - 1 = 0) := by omega
          have o2 : ¬ (15 < (o : Int) - 1) := by omega
          clear HR HO h1 h2 hd
          go_wp2_with fail
          go_quiet (fail)
          have hb1 := below_drewN (Below.refl wr.heap.size wr) nq
          generalize wr.drewN nq = w1 at hb1 ⊢
          have R2 := R1.on hb1
          clear r0 r1
          go_wp2_with fail
          refine (is_any G 5 ⟨#[40]⟩ false _ R2 (hide (decide_eq_false (unhide HA)))).mono ?_
          rintro e w2 ⟨rfl, hb2⟩
          have R3 := R2.on hb2
          clear R2
          go_wp2_with fail
          refine (is_any G 5 ⟨#[41]⟩ true _ R3 (hide (decide_eq_true (unhide HB)))).mono ?_
          rintro e w3 ⟨rfl, hb3⟩
          have R4 := R3.on hb3
          obtain ⟨r1, f1⟩ : _ ∧ _ := ⟨R4.c1, R4.f1⟩
          have R5 := R4.set (q := q + 1) (i := (q : Int) + 1) (by omega) (by omega)
          have ht5 := (ht.go (bt (bt hb1 hb2) hb3)).tr (Turns.set b w3 (.int .i64 ((q : Int) + 1)))
          have hp1 := R1.place
          have hp5 := R5.place
          clear R1 R3 HA HB
          go_wp2_with fail
          go_roundw
          case rel => exact ⟨o - 1, q + 1, by go_num, by omega, hide (fun h => by omega), HE, R5, ht5⟩
          case measure => rw [hp1, hp5]; omega
      · have HB := hide h2
        have HE := hide ((pass_step_on (by omega) h1 h2 ho0).symm.trans (unhide HR))
        have o1 : ¬ ((o : Int) = 0) := by omega
        have o2 : ¬ (15 < (o : Int)) := by omega
        clear HR HO h1 h2
        go_wp2_with fail
        go_quiet (fail)
        have hb1 := below_drewN (Below.refl wr.heap.size wr) nq
        generalize wr.drewN nq = w1 at hb1 ⊢
        have R2 := R1.on hb1
        clear r0 r1
        go_wp2_with fail
        refine (is_any G 5 ⟨#[40]⟩ false _ R2 (hide (decide_eq_false (unhide HA)))).mono ?_
        rintro e w2 ⟨rfl, hb2⟩
        have R3 := R2.on hb2
        clear R2
        go_wp2_with fail
        refine (is_any G 5 ⟨#[41]⟩ false _ R3 (hide (decide_eq_false (unhide HB)))).mono ?_
        rintro e w3 ⟨rfl, hb3⟩
        have R4 := R3.on hb3
        obtain ⟨r1, f1⟩ : _ ∧ _ := ⟨R4.c1, R4.f1⟩
        have R5 := R4.set (q := q + 1) (i := (q : Int) + 1) (by omega) (by omega)
        have ht5 := (ht.go (bt (bt hb1 hb2) hb3)).tr (Turns.set b w3 (.int .i64 ((q : Int) + 1)))
        have hp1 := R1.place
        have hp5 := R5.place
        clear R1 R3 HA HB
        go_wp2_with fail
        go_roundw
        case rel => exact ⟨o, q + 1, rfl, ho, hide (fun h => by omega), HE, R5, ht5⟩
        case measure => rw [hp1, hp5]; omega
end Go.Proofs.YtcjnhhbcleljmaaGreatDoor.Sb
namespace Go.Proofs.YtcjnhhbcleljmaaGreatDoor.Sb
open Go.RowKit
open V
open Ex (RowO LiesO flatO liesO_own)

/-- What reader.atom answers; the terms lie in memory of their own from block B on. -/
def AtmRes (w0 w : World) (b : Nat) (a : Option Addr) (n c : Nat) (r : Except Nat (At × Nat)) (e : Ending) (w' : World) : Prop := match r with
  | .ok x => (∃ (s : ByteArray) (ao : Option Addr) (m mc : Nat), e = .returned (.tuple #[.agg #[.string s, .slice ao m mc], .int .i64 0]) ∧ s.data.toList = (cutA x.1).1 ∧ w'.ownsRow w.heap.size 141 4 (.slice ao m mc) m (flatB (cutA x.1).2)) ∧ Rdr w0 w' b a n c x.2 ∧ Turns b w w'
  | .error q => e = .returned (.tuple #[.agg #[.string ⟨#[]⟩, .slice none 0 0], .int .i64 7]) ∧ Rdr w0 w' b a n c q ∧ Turns b w w'
theorem right_few {ks : List Kt} {p : Nat} {x : At × Nat} (h : readAt (ks.drop p) p = .ok x) : V.rightA x.1 = true ↔ x.1.2.length ≤ 5 := by
  obtain ⟨h1, h2, _, _⟩ := readAt_right h
  unfold V.rightA
  rw [h1, Bool.true_and]
  constructor
  · intro h
    simp only [Bool.and_eq_true, decide_eq_true_eq] at h
    exact h.1
  · intro h5
    simp only [Bool.and_eq_true, decide_eq_true_eq, List.all_eq_true]
    exact ⟨h5, h2⟩

theorem Turns.new {b : Nat} {w W : World} (h : Turns b w W) {g i : Nat} (hg : w.heap.size ≤ g) (v : Value) : Turns b w (W.setCell ⟨g, i, none⟩ v) := by
  have k : Below g W (W.setCell ⟨g, i, none⟩ v) := (Below.refl g W).setCell (p := ⟨g, i, none⟩) (Nat.le_refl _) _
  exact ⟨k.os.trans h.os, k.tape.trans h.tape, k.output.trans h.output, Nat.le_trans h.size k.size, fun m hm hne => (Below.heap_setCell _ _ _ _ (by simp only; omega)).trans (h.block m hm hne)⟩
theorem Rdr.new {w0 W : World} {b : Nat} {a : Option Addr} {n c p : Nat} (R : Rdr w0 W b a n c p) {g i : Nat} (hg : w0.heap.size ≤ g) (hne : g ≠ b) (v : Value) : Rdr w0 (W.setCell ⟨g, i, none⟩ v) b a n c p :=
  ⟨R.bel.setCell (p := ⟨g, i, none⟩) hg _, R.lo, by rw [Below.heap_setCell _ _ _ _ (by simp only; exact hne.symm)]; exact R.box, R.le⟩
theorem AB.turn {W W' : World} {g b : Nat} {s : ByteArray} {v : Value} (h : AB W g s v) (ht : Turns b W W') (hne : g ≠ b) : AB W' g s v := ⟨(ht.block g h.lt (fun e => hne (Option.some.inj e))).trans h.at_⟩
/-- An atom's box. -/
abbrev zeroAt : Value := .agg #[.string ⟨#[]⟩, .slice none 0 0]
set_option maxHeartbeats 4000000 in
set_option maxRecDepth 100000 in
theorem atom_bad_any {w0 : World} {a : Option Addr} {n c : Nat} {xs : List Tm} (G : Sg w0 a n c xs) {b p : Nat} (q : Nat) (w : World) (R : Rdr w0 w b a n c p) (H : Hid (readAt ((xs.map ktm).drop p) p = .error q)) :
    Calls Tryz.prog 160 #[.pointer (some ⟨b, 0, none⟩)] w fun e w' => AtmRes w0 w b a n c (.error q) e w' := by
  have hq := readAt_error (by rw [G.len]; exact R.le) (unhide H)
  rw [G.len] at hq
  have hb := atom_bad (unhide H)
  have F := fun V (hV : Below w.heap.size w V) => read_no _ n c xs p q V (G.env.on (bt R.bel hV)) ((G.lies.on R.bel).on hV) G.small G.few R.le (hide (readA_none (unhide H)))
  have hb0 : Below w.heap.size w (w.alloc (.cells #[.string ⟨#[]⟩, .slice none 0 0] 46)) := (Below.refl _ _).alloc (Nat.le_refl _) _
  have A0 := AB.new w ⟨#[]⟩ (.slice none 0 0)
  have R0 := R.on hb0
  obtain ⟨r0, r1⟩ : _ ∧ _ := ⟨R0.c0, R0.c1⟩
  clear H
  go_enter Tryz.func160, Tryz.ntmps160
  go_wp2_with fail
  refine (F _ hb0).mono ?_
  rintro e w1 ⟨rfl, hb1⟩
  have hbx := below_new w1 (.cells #[.string ⟨#[]⟩, .slice none 0 0] 46)
  have R1 := (R0.on hb1).on hbx
  have A1 := (A0.on hb1).on hbx
  have hw1 := bt (bt hb0 hb1) hbx
  have hne : w.heap.size ≠ b := fun e => by have := R.lt; omega
  have R2 := R1.set (q := q) (i := (q : Int)) rfl (by omega)
  have ht2 := (Turns.of (b := b) hw1).tr (Turns.set b (w1.alloc (.cells #[.string ⟨#[]⟩, .slice none 0 0] 46)) (.int .i64 (q : Int)))
  have A2 : AB ((w1.alloc (.cells #[.string ⟨#[]⟩, .slice none 0 0] 46)).setCell ⟨b, 1, none⟩ (.int .i64 (q : Int))) w.heap.size ⟨#[]⟩ (.slice none 0 0) := ⟨by rw [Below.heap_setCell _ _ _ _ hne]; exact A1.at_⟩
  obtain ⟨s1, f1⟩ : _ ∧ _ := ⟨R1.c1, R1.f1⟩
  clear F R0 r0 r1 hb0 hb1 hbx A0 A1
  rcases hb with hb | ⟨hb, hn⟩
  · have d1 : decide ((p : Int) < (q : Int)) = true := decide_eq_true (by omega)
    have d2 : p < q := hb
    obtain ⟨y0, y1, g0, g1⟩ : _ ∧ _ ∧ _ ∧ _ := ⟨A2.c0, A2.c1, A2.f0, A2.f1⟩
    clear R1
    go_wp2_with fail
    have hlo : w0.heap.size ≤ w.heap.size := R.bel.size
    refine bodyPost_ret (v := .tuple #[zeroAt, .int .i64 7]) (by simp [results, Tryz.results160, go_sem, y0, y1]) rfl ?_
    exact ⟨rfl, (R2.new hlo hne _).new hlo hne _, (ht2.new (Nat.le_refl _) _).new (Nat.le_refl _) _⟩
  · subst hb
    have d2 : ¬ q < q := by omega
    have hlo : w0.heap.size ≤ w.heap.size := R.bel.size
    clear R1 R hw1
    go_wp2_with fail
    generalize (w1.alloc (.cells #[.string ⟨#[]⟩, .slice none 0 0] 46)).setCell ⟨b, 1, none⟩ (.int .i64 (q : Int)) = W2 at R2 ht2 A2 ⊢
    refine (isName_any G false W2 R2 (hide hn)).mono ?_
    rintro e w3 ⟨rfl, hb3⟩
    have A3 := A2.on hb3
    have R3 := R2.on hb3
    have ht3 := ht2.go hb3
    obtain ⟨y0, y1, g0, g1⟩ : _ ∧ _ ∧ _ ∧ _ := ⟨A3.c0, A3.c1, A3.f0, A3.f1⟩
    clear R2 ht2 A2 s1 f1
    go_wp2_with fail
    refine bodyPost_ret (v := .tuple #[zeroAt, .int .i64 7]) (by simp [results, Tryz.results160, go_sem, y0, y1]) rfl ?_
    exact ⟨rfl, (R3.new hlo hne _).new hlo hne _, (ht3.new (Nat.le_refl _) _).new (Nat.le_refl _) _⟩

set_option maxHeartbeats 4000000 in
set_option maxRecDepth 100000 in
theorem atom_few_any {w0 : World} {a : Option Addr} {n c : Nat} {xs : List Tm} (G : Sg w0 a n c xs) {b p : Nat} (x : At × Nat) (w : World) (R : Rdr w0 w b a n c p) (H : Hid (readAt ((xs.map ktm).drop p) p = .ok x)) (h5 : x.1.2.length ≤ 5) :
    Calls Tryz.prog 160 #[.pointer (some ⟨b, 0, none⟩)] w fun e w' => AtmRes w0 w b a n c (.ok x) e w' := by
  have hq := (readAt_right (unhide H)).2.2.2
  rw [G.len] at hq
  have HC := hide (cutA_yes ((right_few (unhide H)).2 h5))
  have F := fun V (hV : Below w.heap.size w V) => read_ok _ n c xs p x V (G.env.on (bt R.bel hV)) ((G.lies.on R.bel).on hV) G.small G.few R.le (hide (readA_few (unhide H) h5))
  have hb0 : Below w.heap.size w (w.alloc (.cells #[.string ⟨#[]⟩, .slice none 0 0] 46)) := (Below.refl _ _).alloc (Nat.le_refl _) _
  have A0 := AB.new w ⟨#[]⟩ (.slice none 0 0)
  have R0 := R.on hb0
  obtain ⟨r0, r1⟩ : _ ∧ _ := ⟨R0.c0, R0.c1⟩
  clear H h5
  go_enter Tryz.func160, Tryz.ntmps160
  go_wp2_with fail
  refine (F _ hb0).mono ?_
  rintro e w1 ⟨⟨s, ao, m, mc, rfl, hs, ho⟩, hb1⟩
  have hbx := below_new w1 (.cells #[.string s, .slice ao m mc] 46)
  have R1 := (R0.on hb1).on hbx
  have A1 := (A0.on hb1).on hbx
  have Ax := AB.new w1 s (.slice ao m mc)
  have hw1 := bt (bt hb0 hb1) hbx
  have hblt := R.lt
  have hne : w.heap.size ≠ b := fun e => by omega
  have hsz0 : (w.alloc (.cells #[.string ⟨#[]⟩, .slice none 0 0] 46)).heap.size = w.heap.size + 1 := by simp
  have hob : ∀ g, (Value.slice ao m mc).ownBlock = some g → w.heap.size + 1 ≤ g := fun g hg => by have := (ho.lt g hg).1; omega
  have ho1 := own_off (own_on ho hbx) (a := ⟨b, 1, none⟩) (fun g hg => by have := hob g hg; simp only; omega) (.int .i64 (x.2 : Int))
  have ho2 := own_mono (own_off (own_off ho1 (a := ⟨w.heap.size, 0, none⟩) (fun g hg => by have := hob g hg; simp only; omega) (.string s)) (a := ⟨w.heap.size, 1, none⟩) (fun g hg => by have := hob g hg; simp only; omega) (.slice ao m mc)) (B' := w.heap.size) (by omega)
  have hbs : w1.heap.size ≠ b := fun e => by have := hb0.size; have := hb1.size; omega
  have hx1 : w1.heap.size ≠ w.heap.size := fun e => by have := hb1.size; omega
  have R2 := R1.set (q := x.2) (i := (x.2 : Int)) rfl (by omega)
  have ht2 := (Turns.of (b := b) hw1).tr (Turns.set b (w1.alloc (.cells #[.string s, .slice ao m mc] 46)) (.int .i64 (x.2 : Int)))
  have A2 : AB ((w1.alloc (.cells #[.string s, .slice ao m mc] 46)).setCell ⟨b, 1, none⟩ (.int .i64 (x.2 : Int))) w.heap.size ⟨#[]⟩ (.slice none 0 0) := ⟨by rw [Below.heap_setCell _ _ _ _ hne]; exact A1.at_⟩
  have A3 : AB ((w1.alloc (.cells #[.string s, .slice ao m mc] 46)).setCell ⟨b, 1, none⟩ (.int .i64 (x.2 : Int))) w1.heap.size s (.slice ao m mc) := ⟨by rw [Below.heap_setCell _ _ _ _ hbs]; exact Ax.at_⟩
  have A4 := (A2.set0 s).set1 (.slice ao m mc)
  obtain ⟨s1, f1⟩ : _ ∧ _ := ⟨R1.c1, R1.f1⟩
  obtain ⟨y0, y1, g0, g1⟩ : _ ∧ _ ∧ _ ∧ _ := ⟨A2.c0, A2.c1, A2.f0, A2.f1⟩
  obtain ⟨z0, z1⟩ : _ ∧ _ := ⟨A3.c0, A3.c1⟩
  obtain ⟨t0, t1⟩ : _ ∧ _ := ⟨A4.c0, A4.c1⟩
  have hlo : w0.heap.size ≤ w.heap.size := R.bel.size
  clear F R0 r0 r1 hb0 hb1 hbx A0 A1 Ax ho ho1 A2 A3 A4 hob R R1
  go_wp2_with fail
  refine bodyPost_ret (v := .tuple #[.agg #[.string s, .slice ao m mc], .int .i64 0]) (by simp [results, Tryz.results160, go_sem, t0, t1]) rfl ?_
  exact ⟨⟨s, ao, m, mc, rfl, by rw [unhide HC]; exact hs, by rw [unhide HC]; exact ho2⟩, (R2.new hlo hne _).new hlo hne _, (ht2.new (Nat.le_refl _) _).new (Nat.le_refl _) _⟩
set_option maxHeartbeats 4000000 in
set_option maxRecDepth 100000 in
theorem atom_many_any {w0 : World} {a : Option Addr} {n c : Nat} {xs : List Tm} (G : Sg w0 a n c xs) {b p : Nat} (x : At × Nat) (w : World) (R : Rdr w0 w b a n c p) (H : Hid (readAt ((xs.map ktm).drop p) p = .ok x)) (h5 : ¬ x.1.2.length ≤ 5) :
    Calls Tryz.prog 160 #[.pointer (some ⟨b, 0, none⟩)] w fun e w' => AtmRes w0 w b a n c (.ok x) e w' := by
  have hq := (readAt_right (unhide H)).2.2.2
  rw [G.len] at hq
  have HC := hide (cutA_no (fun h => h5 ((right_few (unhide H)).1 h)))
  obtain ⟨hn, hop, hps⟩ := atom_pass (unhide H) h5
  have HN := hide hn
  have HOP := hide hop
  have HPS := hide hps
  have hpn : p < n := by
    have := (List.getElem?_eq_some_iff.1 hop).1
    rw [G.len] at this; omega
  have F := fun V (hV : Below w.heap.size w V) => read_no _ n c xs p p V (G.env.on (bt R.bel hV)) ((G.lies.on R.bel).on hV) G.small G.few R.le (hide (readA_many (unhide H) h5))
  have hb0 : Below w.heap.size w (w.alloc (.cells #[.string ⟨#[]⟩, .slice none 0 0] 46)) := (Below.refl _ _).alloc (Nat.le_refl _) _
  have A0 := AB.new w ⟨#[]⟩ (.slice none 0 0)
  have R0 := R.on hb0
  have hfew := G.few
  obtain ⟨r0, r1⟩ : _ ∧ _ := ⟨R0.c0, R0.c1⟩
  clear H h5 hn hop hps
  go_enter Tryz.func160, Tryz.ntmps160
  go_wp2_with fail
  refine (F _ hb0).mono ?_
  rintro e w1 ⟨rfl, hb1⟩
  have hbx := below_new w1 (.cells #[.string ⟨#[]⟩, .slice none 0 0] 46)
  have R1 := (R0.on hb1).on hbx
  have A1 := (A0.on hb1).on hbx
  have hw1 := bt (bt hb0 hb1) hbx
  have hne : w.heap.size ≠ b := fun e => by have := R.lt; omega
  have R2 := R1.set (q := p) (i := (p : Int)) rfl (by omega)
  have ht2 := (Turns.of (b := b) hw1).tr (Turns.set b (w1.alloc (.cells #[.string ⟨#[]⟩, .slice none 0 0] 46)) (.int .i64 (p : Int)))
  have A2 : AB ((w1.alloc (.cells #[.string ⟨#[]⟩, .slice none 0 0] 46)).setCell ⟨b, 1, none⟩ (.int .i64 (p : Int))) w.heap.size ⟨#[]⟩ (.slice none 0 0) := ⟨by rw [Below.heap_setCell _ _ _ _ hne]; exact A1.at_⟩
  obtain ⟨s1, f1⟩ : _ ∧ _ := ⟨R1.c1, R1.f1⟩
  have d2 : ¬ p < p := by omega
  have hlo : w0.heap.size ≤ w.heap.size := R.bel.size
  clear F R0 r0 r1 hb0 hb1 hbx A0 A1 R1 R hw1
  go_wp2_with fail
  generalize (w1.alloc (.cells #[.string ⟨#[]⟩, .slice none 0 0] 46)).setCell ⟨b, 1, none⟩ (.int .i64 (p : Int)) = W2 at R2 ht2 A2 ⊢
  refine (isName_any G true W2 R2 HN).mono ?_
  rintro e w3 ⟨rfl, hb3⟩
  have A3 := A2.on hb3
  have R3 := R2.on hb3
  have ht3 := ht2.go hb3
  have R4 := R3.set (q := p + 1) (i := (p : Int) + 1) (by omega) (by omega)
  have ht4 := ht3.tr (Turns.set b w3 (.int .i64 ((p : Int) + 1)))
  have A4 : AB (w3.setCell ⟨b, 1, none⟩ (.int .i64 ((p : Int) + 1))) w.heap.size ⟨#[]⟩ (.slice none 0 0) := ⟨by rw [Below.heap_setCell _ _ _ _ hne]; exact A3.at_⟩
  obtain ⟨s3, f3⟩ : _ ∧ _ := ⟨R3.c1, R3.f1⟩
  clear R2 ht2 A2 s1 f1 A3 R3 ht3
  go_wp2_with fail
  generalize w3.setCell ⟨b, 1, none⟩ (.int .i64 ((p : Int) + 1)) = W4 at R4 ht4 A4 ⊢
  refine (pass_any G (.ok x.2) W4 R4 HOP HPS).mono ?_
  rintro e w5 ⟨rfl, R5, ht5⟩
  have A5 := A4.turn ht5 hne
  have ht6 := ht4.tr ht5
  obtain ⟨y0, y1, g0, g1⟩ : _ ∧ _ ∧ _ ∧ _ := ⟨A5.c0, A5.c1, A5.f0, A5.f1⟩
  clear R4 ht4 A4 s3 f3
  go_wp2_with fail
  refine bodyPost_ret (v := .tuple #[zeroAt, .int .i64 0]) (by simp [results, Tryz.results160, go_sem, y0, y1]) rfl ?_
  exact ⟨⟨⟨#[]⟩, none, 0, 0, rfl, by rw [unhide HC]; rfl, by rw [unhide HC]; exact World.ownsRow_nil _ _ _ _⟩, (R5.new hlo hne _).new hlo hne _, (ht6.new (Nat.le_refl _) _).new (Nat.le_refl _) _⟩
/-- What reader.atom answers. -/
theorem atom_any {w0 : World} {a : Option Addr} {n c : Nat} {xs : List Tm} (G : Sg w0 a n c xs) {b p : Nat} (r : Except Nat (At × Nat)) (w : World) (R : Rdr w0 w b a n c p) (H : Hid (readAt ((xs.map ktm).drop p) p = r)) :
    Calls Tryz.prog 160 #[.pointer (some ⟨b, 0, none⟩)] w fun e w' => AtmRes w0 w b a n c r e w' := by
  cases r with
  | error q => exact atom_bad_any G q w R H
  | ok x =>
    by_cases h5 : x.1.2.length ≤ 5
    · exact atom_few_any G x w R H h5
    · exact atom_many_any G x w R H h5
end Go.Proofs.YtcjnhhbcleljmaaGreatDoor.Sb
namespace Go.Proofs.YtcjnhhbcleljmaaGreatDoor.Sb
open Go.RowKit
open V
open Ex (RowO LiesO flatO liesO_own)

/-- What reader.expr answers; the steps lie in memory of their own. -/
def ExpRes (w0 w : World) (b : Nat) (a : Option Addr) (n c : Nat) (r : Rx) (e : Ending) (w' : World) : Prop := match r with
  | .ok x => (∃ (ao : Option Addr) (m mc : Nat), e = .returned (.tuple #[.slice ao m mc, .int .i64 0]) ∧ w'.ownsRow w.heap.size 144 5 (.slice ao m mc) m (flatO (cutX x.1))) ∧ Rdr w0 w' b a n c x.2.2 ∧ Turns b w w'
  | .error (some q) => e = .returned (.tuple #[.slice none 0 0, .int .i64 7]) ∧ Rdr w0 w' b a n c q ∧ Turns b w w'
  | .error none => e = .returned (.tuple #[.slice none 0 0, .int .i64 2]) ∧ (∃ q, Rdr w0 w' b a n c q) ∧ Turns b w w'
set_option maxHeartbeats 4000000 in
set_option maxRecDepth 100000 in
theorem expr_any {w0 : World} {a : Option Addr} {n c : Nat} {xs : List Tm} (G : Sg w0 a n c xs) {b p : Nat} (r : Rx) (w : World) (R : Rdr w0 w b a n c p) (H : Hid (exprR ((xs.map ktm).drop p) p = r)) :
    Calls Tryz.prog 162 #[.pointer (some ⟨b, 0, none⟩)] w fun e w' => ExpRes w0 w b a n c r e w' := by
  have H' : readX 15 ((xs.map ktm).drop p) p = r := unhide H
  clear H
  obtain ⟨r0, r1⟩ : _ ∧ _ := ⟨R.c0, R.c1⟩
  have hlen := G.len
  rcases r with (_ | q) | ⟨l, rest, q⟩
  · obtain ⟨hop, hps⟩ := deep_pass H'
    have HOP := hide hop
    have HPS := hide hps
    have F := hide (fun V (hV : Below w.heap.size w V) => rexpr_no _ n c xs p p V (G.env.on (bt R.bel hV)) ((G.lies.on R.bel).on hV) G.small G.few R.le (hide (readE_deep H')))
    have d2 : ¬ p < p := by omega
    clear H' hop hps
    go_enter Tryz.func162, Tryz.ntmps162
    go_wp2_with fail
    refine (unhide F _ (Below.refl _ _)).mono ?_
    rintro e w1 ⟨rfl, hb1⟩
    have R1 := R.on hb1
    have R2 := R1.set (q := p) (i := (p : Int)) rfl R.le
    have ht2 := (Turns.of (b := b) hb1).tr (Turns.set b w1 (.int .i64 (p : Int)))
    obtain ⟨s1, f1⟩ : _ ∧ _ := ⟨R1.c1, R1.f1⟩
    clear F r0 r1 R R1
    go_wp2_with fail
    generalize w1.setCell ⟨b, 1, none⟩ (.int .i64 (p : Int)) = W2 at R2 ht2 ⊢
    refine (is_any G 5 ⟨#[40]⟩ true W2 R2 (hide (decide_eq_true (unhide HOP)))).mono ?_
    rintro e w3 ⟨rfl, hb3⟩
    have R3 := R2.on hb3
    have ht3 := ht2.go hb3
    clear R2 ht2 s1 f1
    go_wp2_with fail
    refine (pass_any G (.error none) w3 R3 HOP HPS).mono ?_
    rintro e w4 ⟨rfl, R4, ht4⟩
    have ht5 := ht3.tr ht4
    clear R3 ht3 ht4
    go_wp2_with fail
    refine bodyPost_ret (v := .tuple #[.slice none 0 0, .int .i64 2]) (by simp [results, Tryz.results162, go_sem]) rfl ?_
    exact ⟨rfl, R4, ht5⟩
  · have hn := none_pass H'
    have hq := readX_error 15 H'
    rw [List.length_drop, hlen] at hq
    have hqn : q ≤ n := by have := R.le; omega
    have F := hide (fun V (hV : Below w.heap.size w V) => rexpr_no _ n c xs p q V (G.env.on (bt R.bel hV)) ((G.lies.on R.bel).on hV) G.small G.few R.le (hide (readE_none H')))
    clear H'
    go_enter Tryz.func162, Tryz.ntmps162
    go_wp2_with fail
    refine (unhide F _ (Below.refl _ _)).mono ?_
    rintro e w1 ⟨rfl, hb1⟩
    have R1 := R.on hb1
    have R2 := R1.set (q := q) (i := (q : Int)) rfl hqn
    have ht2 := (Turns.of (b := b) hb1).tr (Turns.set b w1 (.int .i64 (q : Int)))
    obtain ⟨s1, f1⟩ : _ ∧ _ := ⟨R1.c1, R1.f1⟩
    clear F r0 r1 R R1
    rcases hn with hn | ⟨hn, hn'⟩
    · have d2 : p < q := hn
      go_wp2_with fail
      refine bodyPost_ret (v := .tuple #[.slice none 0 0, .int .i64 7]) (by simp [results, Tryz.results162, go_sem]) rfl ?_
      exact ⟨rfl, R2, ht2⟩
    · subst hn
      have HN := hide hn'
      have d2 : ¬ q < q := by omega
      clear hn'
      go_wp2_with fail
      generalize w1.setCell ⟨b, 1, none⟩ (.int .i64 (q : Int)) = W2 at R2 ht2 ⊢
      refine (is_any G 5 ⟨#[40]⟩ false W2 R2 (hide (decide_eq_false (unhide HN)))).mono ?_
      rintro e w3 ⟨rfl, hb3⟩
      have R3 := R2.on hb3
      have ht3 := ht2.go hb3
      clear R2 ht2 s1 f1
      go_wp2_with fail
      refine bodyPost_ret (v := .tuple #[.slice none 0 0, .int .i64 7]) (by simp [results, Tryz.results162, go_sem]) rfl ?_
      exact ⟨rfl, R3, ht3⟩
  · have hw := (readX_whole H').1
    obtain ⟨g1, g2, g3, g4⟩ := readX_rest 15 H'
    simp only at g1 g2 g3 g4 hw
    have hqn : q ≤ n := by omega
    by_cases h15 : l.length ≤ 15
    · have HC := hide (cutX_yes (hw.trans (decide_eq_true h15)))
      have F := hide (fun V (hV : Below w.heap.size w V) => rexpr_ok _ n c xs p _ V (G.env.on (bt R.bel hV)) ((G.lies.on R.bel).on hV) G.small G.few R.le (hide (readE_few H' h15)))
      clear H' h15 hw g1 g2 g3 g4
      go_enter Tryz.func162, Tryz.ntmps162
      go_wp2_with fail
      refine (unhide F _ (Below.refl _ _)).mono ?_
      rintro e w1 ⟨⟨ao, m, mc, rfl, ho⟩, hb1⟩
      have R1 := R.on hb1
      have R2 := R1.set (q := q) (i := (q : Int)) rfl hqn
      have ht2 := (Turns.of (b := b) hb1).tr (Turns.set b w1 (.int .i64 (q : Int)))
      have ho2 := own_off ho (a := ⟨b, 1, none⟩) (fun g hg => by have := (ho.lt g hg).1; have := R.lt; simp only; omega) (.int .i64 (q : Int))
      obtain ⟨s1, f1⟩ : _ ∧ _ := ⟨R1.c1, R1.f1⟩
      clear F r0 r1 R R1 ho
      go_wp2_with fail
      refine bodyPost_ret (v := .tuple #[.slice ao m mc, .int .i64 0]) (by simp [results, Tryz.results162, go_sem]) rfl ?_
      exact ⟨⟨ao, m, mc, rfl, by rw [unhide HC]; exact ho2⟩, R2, ht2⟩
    · have HC := hide (cutX_no (fun h => h15 (of_decide_eq_true (hw.symm.trans h))))
      obtain ⟨hop, hps⟩ := many_pass H' h15
      have HOP := hide hop
      have HPS := hide hps
      have F := hide (fun V (hV : Below w.heap.size w V) => rexpr_no _ n c xs p p V (G.env.on (bt R.bel hV)) ((G.lies.on R.bel).on hV) G.small G.few R.le (hide (readE_many H' h15)))
      have d2 : ¬ p < p := by omega
      clear H' h15 hw g1 g2 g3 g4 hop hps
      go_enter Tryz.func162, Tryz.ntmps162
      go_wp2_with fail
      refine (unhide F _ (Below.refl _ _)).mono ?_
      rintro e w1 ⟨rfl, hb1⟩
      have R1 := R.on hb1
      have R2 := R1.set (q := p) (i := (p : Int)) rfl R.le
      have ht2 := (Turns.of (b := b) hb1).tr (Turns.set b w1 (.int .i64 (p : Int)))
      obtain ⟨s1, f1⟩ : _ ∧ _ := ⟨R1.c1, R1.f1⟩
      clear F r0 r1 R R1
      go_wp2_with fail
      generalize w1.setCell ⟨b, 1, none⟩ (.int .i64 (p : Int)) = W2 at R2 ht2 ⊢
      refine (is_any G 5 ⟨#[40]⟩ true W2 R2 (hide (decide_eq_true (unhide HOP)))).mono ?_
      rintro e w3 ⟨rfl, hb3⟩
      have R3 := R2.on hb3
      have ht3 := ht2.go hb3
      clear R2 ht2 s1 f1
      go_wp2_with fail
      refine (pass_any G (.ok q) w3 R3 HOP HPS).mono ?_
      rintro e w4 ⟨rfl, R4, ht4⟩
      have ht5 := ht3.tr ht4
      clear R3 ht3 ht4
      go_wp2_with fail
      refine bodyPost_ret (v := .tuple #[.slice none 0 0, .int .i64 0]) (by simp [results, Tryz.results162, go_sem]) rfl ?_
      exact ⟨⟨none, 0, 0, rfl, by rw [unhide HC]; exact World.ownsRow_nil _ _ _ _⟩, R4, ht5⟩
end Go.Proofs.YtcjnhhbcleljmaaGreatDoor.Sb
namespace Go.Proofs.YtcjnhhbcleljmaaGreatDoor.Sb
open Go.RowKit
open V
open Ex (RowO LiesO flatO liesO_own)

theorem own_turn {w w' : World} {b B : Nat} {e : TypeId} {s : Nat} {v : Value} {n : Nat} {xs : List Value} (h : w.ownsRow B e s v n xs) (ht : Turns b w w') (hb : b < B) : w'.ownsRow B e s v n xs := by
  refine h.kept ht ?_
  cases ho : v.ownBlock with
  | none => exact Or.inl rfl
  | some k => exact Or.inr (fun e => by have := (h.lt k ho).1; cases e; omega)
theorem Ez.Own.turn {e : Ez} {w w' : World} {b B : Nat} {v : Value} (h : e.Own w B v) (ht : Turns b w w') (hb : b < B) : e.Own w' B v := ⟨own_turn h.o ht hb, h.a⟩
theorem OwnE.turn {w w' : World} {b B : Nat} {v : Value} {es : List Ez} (h : OwnE w B v es) (ht : Turns b w w') (hb : b < B) : OwnE w' B v es := ⟨own_turn h.row ht hb, fun e he => (h.all e he).turn ht hb⟩
/-- One more of the call's own, beside the others. -/
theorem OwnE.add {wr w1 w2 : World} {B : Nat} {v v' : Value} {es : List Ez} {y : Ez} {nb : Obj} (HE : OwnE w1 B v es) (hv : ∀ m, v.ownBlock = some m → m < wr.heap.size) (hB : B ≤ wr.heap.size) (ho : w1.ownsRow wr.heap.size 144 5 (.slice y.a y.l y.c) y.l (flatO y.xs))
    (hr : w2.ownsRow B 81 1 v' (es.length + 1) (flatE (es ++ [y]))) (hg : (w1.alloc nb).grownBy w2 v.ownBlock) (h5 : v'.ownBlock = v.ownBlock ∨ v'.ownBlock = some (w1.alloc nb).heap.size) : OwnE w2 B v' (es ++ [y]) := by
  refine ⟨by rw [List.length_append]; exact hr, fun e he => ?_⟩
  rcases List.mem_append.1 he with h | h
  · exact ((HE.all e h).on (below_new w1 nb)).beside hg h5
  · rw [List.mem_singleton.1 h]
    exact Ez.Own.beside (v := v) ⟨own_mono (own_on ho (below_new w1 nb)) hB, apart_less (s := wr.heap.size) (fun m hm => (ho.lt m hm).1) hv⟩ hg h5
theorem app_ew {w : World} {ops : Array Oper} {rest : List Oper} {o : Oper} {a : Act} {Q : Exit → Act → World → Prop} (hgd : o.guard = none) (s x : Operand)
    (ho : o.op = .call { callee := .builtin .append, args := #[s, x], argTypes := #[84, 84] }) (B : Nat) (v : Value) (es : List Ez) (e : Ez) (nb : Nat)
    (hs : a.eval s = v) (hx : a.eval x = .slice (some ⟨nb, 0, none⟩) 1 1) (hown : w.ownsRow B 81 1 v es.length (flatE es)) (hnew : Hid (w.heap[nb]? = some (.cells #[.slice e.a e.l e.c] 81))) (hlen : es.length ≤ 20000) (hB : B ≤ w.heap.size)
    (h : ∀ v' w', w'.ownsRow B 81 1 v' (es ++ [e]).length (flatE (es ++ [e])) → w.grownBy w' v.ownBlock → (v'.ownBlock = v.ownBlock ∨ v'.ownBlock = some w.heap.size) → wpList Tryz.prog ops Q rest (a.put o.dst v') w') :
    wpList Tryz.prog ops Q (o :: rest) a w := by
  obtain ⟨i0, hi, hz0, hz1, hz2⟩ := info_parts infoE
  refine wpList_append_own_at w hgd s x 84 ho B 81 i0 (.slice none 0 0) 1 24 Tryz.underlying84 hi hz0 hz1 hz2 rfl (by decide) v es.length (flatE es) hs hown ⟨nb, 0, none⟩ 1 1 [.slice e.a e.l e.c] hx rfl (fun j u hu => ?_) (fun u hu => ?_) (by unfold maxLen; omega) (by omega) hB ?_
  · rw [WideShapes.add_plain, Lib.cell_of_heap (unhide hnew)]
    match j, hu with
    | 0, hu => simpa using hu
    | j + 1, hu => simp at hu
  · rw [List.mem_singleton.1 hu]; rfl
  · intro v' w' h1 h2 _ h4
    refine h v' w' ?_ h2 h4
    rw [flatE_app, List.length_append]
    exact h1
theorem app_zw {w : World} {ops : Array Oper} {rest : List Oper} {o : Oper} {a : Act} {Q : Exit → Act → World → Prop} (hgd : o.guard = none) (s x : Operand)
    (ho : o.op = .call { callee := .builtin .append, args := #[s, x], argTypes := #[23, 23] }) (B : Nat) (v : Value) (zs : List Az) (z : Az) (nb : Nat)
    (hs : a.eval s = v) (hx : a.eval x = .slice (some ⟨nb, 0, none⟩) 1 1) (hown : w.ownsRow B 86 4 v zs.length (flatZs zs)) (hnew : Hid (w.heap[nb]? = some (bxZ z))) (hlen : zs.length ≤ 20000) (hB : B ≤ w.heap.size)
    (h : ∀ v' w', w'.ownsRow B 86 4 v' (zs ++ [z]).length (flatZs (zs ++ [z])) → w.grownBy w' v.ownBlock → (v'.ownBlock = v.ownBlock ∨ v'.ownBlock = some w.heap.size) → wpList Tryz.prog ops Q rest (a.put o.dst v') w') :
    wpList Tryz.prog ops Q (o :: rest) a w := by
  obtain ⟨i0, hi, hz0, hz1, hz2⟩ := info_parts infoZ
  refine wpList_append_own_at w hgd s x 23 ho B 86 i0 (.agg #[.int .i64 0, .string ⟨#[]⟩, .slice none 0 0, .int .i64 0]) 4 56 Tryz.underlying23 hi hz0 hz1 hz2 rfl (by decide) v zs.length (flatZs zs) hs hown ⟨nb, 0, none⟩ 1 1 (flatZ z) hx rfl (cells_z (unhide hnew)) (oneCell_z z) (by unfold maxLen; omega) (by omega) hB ?_
  intro v' w' h1 h2 _ h4
  refine h v' w' ?_ h2 h4
  rw [flatZs_app, flatZs_one, List.length_append]
  exact h1
theorem app_cw {w : World} {ops : Array Oper} {rest : List Oper} {o : Oper} {a : Act} {Q : Exit → Act → World → Prop} (hgd : o.guard = none) (s x : Operand)
    (ho : o.op = .call { callee := .builtin .append, args := #[s, x], argTypes := #[22, 22] }) (B : Nat) (v : Value) (cs : List Cd) (c : Cd) (nb : Nat)
    (hs : a.eval s = v) (hx : a.eval x = .slice (some ⟨nb, 0, none⟩) 1 1) (hown : w.ownsRow B 83 6 v cs.length (flatCs cs)) (hnew : Hid (w.heap[nb]? = some (bxC c))) (hlen : cs.length ≤ 20000) (hB : B ≤ w.heap.size)
    (h : ∀ v' w', w'.ownsRow B 83 6 v' (cs ++ [c]).length (flatCs (cs ++ [c])) → w.grownBy w' v.ownBlock → (v'.ownBlock = v.ownBlock ∨ v'.ownBlock = some w.heap.size) → wpList Tryz.prog ops Q rest (a.put o.dst v') w') :
    wpList Tryz.prog ops Q (o :: rest) a w := by
  obtain ⟨i0, hi, hz0, hz1, hz2⟩ := info_parts infoC
  refine wpList_append_own_at w hgd s x 22 ho B 83 i0 (.agg #[.int .i64 0, .string ⟨#[]⟩, .slice none 0 0, .int .i64 0, .slice none 0 0, .slice none 0 0]) 6 104 Tryz.underlying22 hi hz0 hz1 hz2 rfl (by decide) v cs.length (flatCs cs) hs hown ⟨nb, 0, none⟩ 1 1 (flatC c) hx rfl (cells_c (unhide hnew)) (oneCell_c c) (by unfold maxLen; omega) (by omega) hB ?_
  intro v' w' h1 h2 _ h4
  refine h v' w' ?_ h2 h4
  rw [flatCs_app, flatCs_one, List.length_append]
  exact h1

theorem Turns.grow {b : Nat} {w W W' : World} {r : Option Nat} (h : Turns b w W) (hg : W.grownBy W' r) (hr : ∀ m, r = some m → w.heap.size ≤ m) : Turns b w W' :=
  ⟨hg.os.trans h.os, hg.tape.trans h.tape, hg.output.trans h.output, Nat.le_trans h.size hg.size, fun k hk hne => (hg.block k (Nat.lt_of_lt_of_le hk h.size) (fun e => by have := hr k e.symm; omega)).trans (h.block k hk hne)⟩
theorem Rdr.grow {w0 W W' : World} {b : Nat} {a : Option Addr} {n c p B : Nat} {r : Option Nat} (R : Rdr w0 W b a n c p) (hg : W.grownBy W' r) (hr : ∀ m, r = some m → B ≤ m) (hb : b < B) : Rdr w0 W' b a n c p :=
  ⟨R.bel.grown hg R.bel.size (fun m hm => by have := hr m hm; have := R.lo; omega), R.lo, (hg.block b R.lt (fun e => by have := hr b e.symm; omega)).trans R.box, R.le⟩
/-- What rules.list of expressions answers. -/
def ArgsRes (w0 w : World) (b : Nat) (a : Option Addr) (n c : Nat) (r : Except (Option Nat) (List (List Oo) × List Kt × Nat)) (e : Ending) (w' : World) : Prop := match r with
  | .ok x => (∃ (ao : Option Addr) (mc : Nat) (es : List Ez), e = .returned (.tuple #[.slice ao es.length mc, .int .i64 0]) ∧ OwnE w' w.heap.size (.slice ao es.length mc) es ∧ es.map Ez.xs = x.1.map cutX) ∧ Rdr w0 w' b a n c x.2.2 ∧ Turns b w w'
  | .error (some q) => e = .returned (.tuple #[.slice none 0 0, .int .i64 7]) ∧ Rdr w0 w' b a n c q ∧ Turns b w w'
  | .error none => e = .returned (.tuple #[.slice none 0 0, .int .i64 2]) ∧ (∃ q, Rdr w0 w' b a n c q) ∧ Turns b w w'
theorem run118 : Hid (∀ (a : Array Value) (w : World), (callFunc 162 a).run Tryz.prog w = .ok (.enter 162 a) w) := enters Tryz.func162 (by kernel_rfl) (by kernel_rfl)
set_option maxHeartbeats 4000000 in
set_option maxRecDepth 100000 in
theorem args_list {w0 : World} {a : Option Addr} {n c : Nat} {xs : List Tm} (G : Sg w0 a n c xs) {b p : Nat} (r : Except (Option Nat) (List (List Oo) × List Kt × Nat)) (w : World) (R : Rdr w0 w b a n c p) (H : Hid (allR exprR ((xs.map ktm).drop p) p = r)) :
    Calls Tryz.prog 161 #[.pointer (some ⟨b, 0, none⟩), .func (.func 162) #[.pointer (some ⟨b, 0, none⟩)] #[]] w fun e w' => ArgsRes w0 w b a n c r e w' := by
  have hlen := G.len
  have hblt := R.lt
  go_enter Tryz.func161, Tryz.ntmps161
  go_wp2_with fail
  go_loopw [6] (fun v wr => ∃ (ao : Option Addr) (mc : Nat) (es : List Ez) (acc : List (List Oo)) (q : Nat), v = .slice ao es.length mc ∧ OwnE wr w.heap.size (.slice ao es.length mc) es ∧ Hid (es.map Ez.xs = acc.map cutX) ∧ es.length ≤ q ∧ Hid (addM acc (allR exprR ((xs.map ktm).drop q) q) = r) ∧ Rdr w0 wr b a n c q ∧ Turns b w wr) (fun _ wr => n - placeOf b wr)
  case atStart => exact ⟨none, 0, [], [], p, rfl, ⟨World.ownsRow_nil _ _ _ _, fun e he => by cases he⟩, hide rfl, Nat.zero_le _, hide (by rw [addM_nil]; exact unhide H), R, Turns.refl _ _⟩
  case round =>
    obtain ⟨ao, mc, es, acc, q, rfl, HE, HM, hq, HR, R1, ht⟩ := hrel
    clear R H
    obtain ⟨rx, hrx⟩ : ∃ rx, exprR ((xs.map ktm).drop q) q = rx := ⟨_, rfl⟩
    have F := hide (expr_any G rx wr R1 (hide hrx))
    have hqn := R1.le
    rcases rx with (_ | q') | ⟨v, rest, q'⟩
    · have HE' := hide ((unhide HR).symm.trans (congrArg (addM acc) (all_no one_expr hrx)))
      clear HR hrx HE HM
      go_wp2_with fail
      refine (unhide F).mono ?_
      rintro e w1 ⟨rfl, R2, ht2⟩
      clear F R1
      go_wp2_with fail
      refine bodyPost_ret (v := .tuple #[.slice none 0 0, .int .i64 2]) (by simp [results, Tryz.results161, go_sem]) rfl ?_
      rw [unhide HE']
      exact ⟨rfl, R2, ht.tr ht2⟩
    · have HE' := hide ((unhide HR).symm.trans (congrArg (addM acc) (all_no one_expr hrx)))
      clear HR hrx HE HM
      go_wp2_with fail
      refine (unhide F).mono ?_
      rintro e w1 ⟨rfl, R2, ht2⟩
      clear F R1
      go_wp2_with fail
      refine bodyPost_ret (v := .tuple #[.slice none 0 0, .int .i64 7]) (by simp [results, Tryz.results161, go_sem]) rfl ?_
      rw [unhide HE']
      exact ⟨rfl, R2, ht.tr ht2⟩
    · obtain ⟨g1, g2, g3⟩ := places_expr (by rw [hlen]; exact hqn) hrx
      have g4 := one_expr.mv (by rw [hlen]; exact hqn) hrx
      simp only at g1 g2 g3 g4
      subst g1
      rw [hlen] at g3
      have HX := hide hrx
      have HM' : ∀ (ao : Option Addr) (m mc : Nat), Hid ((es ++ [(⟨ao, m, mc, cutX v⟩ : Ez)]).map Ez.xs = (acc ++ [v]).map cutX) := fun ao m mc => hide (by rw [List.map_append, List.map_append, unhide HM]; rfl)
      have HMM := hide HM'
      clear hrx HM HM'
      go_wp2_with fail
      refine (unhide F).mono ?_
      rintro e w1 ⟨⟨xo, m, mx, rfl, ho⟩, R2, ht2⟩
      clear F
      simp only at ho R2
      have HE1 := HE.turn ht2 (by omega)
      have hwr : w.heap.size ≤ wr.heap.size := ht.size
      have hv : ∀ k, (Value.slice ao es.length mc).ownBlock = some k → k < wr.heap.size := fun k hk => (HE.row.lt k hk).2
      clear HE
      have hnew := hide (heap_alloc_new w1 (.cells #[.slice xo m mx] 81))
      have hown := HE1.row.alloc (.cells #[.slice xo m mx] 81)
      have hsz : w.heap.size ≤ (w1.alloc (.cells #[.slice xo m mx] 81)).heap.size := by have := ht2.size; simp; omega
      have hfew := G.few
      go_wp2_with (at_builtin; refine app_ew rfl _ _ rfl w.heap.size (.slice ao es.length mc) es ⟨xo, m, mx, cutX v⟩ w1.heap.size rfl rfl hown hnew (by omega) hsz ?_)
      intro v' w2 hr hg h5
      have h5' : v'.ownBlock = (Value.slice ao es.length mc).ownBlock ∨ v'.ownBlock = some (w1.alloc (.cells #[.slice xo m mx] 81)).heap.size := by rw [show (w1.alloc (.cells #[.slice xo m mx] 81)).heap.size = w1.heap.size + 1 by simp]; exact h5
      have HE2 := HE1.add (wr := wr) (y := ⟨xo, m, mx, cutX v⟩) hv hwr ho hr hg h5'
      have hM := unhide HMM xo m mx
      have R3 := (R2.on (below_new w1 (.cells #[.slice xo m mx] 81))).grow hg (fun k hk => (hown.lt k hk).1) hblt
      have ht3 := ((ht.tr ht2).go (below_new w1 (.cells #[.slice xo m mx] 81))).grow hg (fun k hk => (hown.lt k hk).1)
      obtain ⟨ao2, mc2, rfl⟩ := own_slice hr
      have hlE : Hid ((es ++ [(⟨xo, m, mx, cutX v⟩ : Ez)]).length = es.length + 1) := hide (by rw [List.length_append, List.length_singleton])
      generalize es ++ [(⟨xo, m, mx, cutX v⟩ : Ez)] = es' at HE2 hM hlE
      have HM' := hide hM
      rw [show es.length + 1 = es'.length from (unhide hlE).symm] at HE2 ⊢
      have hq' : es'.length ≤ q' := by rw [unhide hlE]; omega
      clear hM hr hg h5 h5' hown hnew HE1 ho HMM R2 hlE hv hsz
      by_cases hc : (xs.map ktm)[q']? = some (5, [44])
      · have HC := hide hc
        have hql : q' < n := by
          have := (List.getElem?_eq_some_iff.1 hc).1
          rw [hlen] at this; exact this
        have HR' := hide ((all_more one_expr acc (by rw [hlen]; exact hqn) (unhide HX) hc).symm.trans (unhide HR))
        clear hc HR HX
        go_wp2_with fail
        refine (takes_yes G 5 ⟨#[44]⟩ w2 R3 HC).mono ?_
        rintro e w3 ⟨rfl, R4, ht4⟩
        have HE3 := HE2.turn ht4 hblt
        have ht5 := ht3.tr ht4
        have hp1 := R1.place
        have hp4 := R4.place
        clear R1 R3 HE2 HC
        go_wp2_with fail
        go_roundw
        case rel => exact ⟨ao2, mc2, es', acc ++ [v], q' + 1, rfl, HE3, HM', by omega, HR', R4, ht5⟩
        case measure => rw [hp1, hp4]; omega
      · have HC := hide hc
        have HR' := hide ((congrArg (addM acc) (all_one one_expr (unhide HX) hc)).symm.trans (unhide HR))
        clear hc HR HX R1
        go_wp2_with fail
        refine (takes_no G 5 ⟨#[44]⟩ w2 R3 HC).mono ?_
        rintro e w3 ⟨rfl, hb3⟩
        have HE3 := HE2.on hb3
        have R4 := R3.on hb3
        clear R3 HE2 HC
        go_wp2_with fail
        refine bodyPost_ret (v := .tuple #[.slice ao2 es'.length mc2, .int .i64 0]) (by simp [results, Tryz.results161, go_sem]) rfl ?_
        rw [← unhide HR']
        exact ⟨⟨ao2, mc2, es', rfl, HE3, unhide HM'⟩, R4, ht3.go hb3⟩
end Go.Proofs.YtcjnhhbcleljmaaGreatDoor.Sb

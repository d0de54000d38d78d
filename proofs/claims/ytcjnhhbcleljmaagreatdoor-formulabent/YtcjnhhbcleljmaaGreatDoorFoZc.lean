/- Joined: FoN FoO FoP FoR FoQ FoS FoU FoV FoX FoW FoY. -/
import Derived.Test.YtcjnhhbcleljmaaGreatDoorFoZa
import Derived.Test.YtcjnhhbcleljmaaGreatDoorRuZd
import Derived.Test.YtcjnhhbcleljmaaGreatDoorRuZc
import Derived.Test.YtcjnhhbcleljmaaGreatDoorForZa
import Derived.Test.YtcjnhhbcleljmaaGreatDoorBasE
import Derived.Test.YtcjnhhbcleljmaaGreatDoorRvZa
namespace Go.Proofs.YtcjnhhbcleljmaaGreatDoor.Sb
open Go.RowKit
open V

/-- The reader lies in block b: its place is p; its nodes' and its open ones' rows. -/
structure Fdr (w0 w : World) (b : Nat) (a : Option Addr) (n c p : Nat) (nv ov : Value) : Prop where
  bel : Below w0.heap.size w0 w
  lo : w0.heap.size ≤ b
  box : w.heap[b]? = some (.cells #[.slice a n c, .int .i64 (p : Int), nv, ov] 115 (0, 0))
  le : p ≤ n
section
variable {w0 w w' : World} {b : Nat} {a : Option Addr} {n c p : Nat} {nv ov : Value}
theorem Fdr.lt (R : Fdr w0 w b a n c p nv ov) : b < w.heap.size := (Array.getElem?_eq_some_iff.1 R.box).1
theorem Fdr.c0 (R : Fdr w0 w b a n c p nv ov) : w.cell? ⟨b, 0, none⟩ = some (.slice a n c) := by rw [Lib.cell_of_heap R.box]; rfl
theorem Fdr.c1 (R : Fdr w0 w b a n c p nv ov) : w.cell? ⟨b, 1, none⟩ = some (.int .i64 (p : Int)) := by rw [Lib.cell_of_heap R.box]; rfl
theorem Fdr.c2 (R : Fdr w0 w b a n c p nv ov) : w.cell? ⟨b, 2, none⟩ = some nv := by rw [Lib.cell_of_heap R.box]; rfl
theorem Fdr.c3 (R : Fdr w0 w b a n c p nv ov) : w.cell? ⟨b, 3, none⟩ = some ov := by rw [Lib.cell_of_heap R.box]; rfl
theorem Fdr.f1 (R : Fdr w0 w b a n c p nv ov) : w.frozen? ⟨b, 1, none⟩ = false := Lib.frozen_of_heap R.box 1
theorem Fdr.f2 (R : Fdr w0 w b a n c p nv ov) : w.frozen? ⟨b, 2, none⟩ = false := Lib.frozen_of_heap R.box 2
theorem Fdr.f3 (R : Fdr w0 w b a n c p nv ov) : w.frozen? ⟨b, 3, none⟩ = false := Lib.frozen_of_heap R.box 3
theorem Fdr.on (R : Fdr w0 w b a n c p nv ov) (hb : Below w.heap.size w w') : Fdr w0 w' b a n c p nv ov := ⟨bt R.bel hb, R.lo, by rw [hb.block b R.lt]; exact R.box, R.le⟩
theorem Fdr.set (R : Fdr w0 w b a n c p nv ov) {q : Nat} {i : Int} (hi : i = q) (hq : q ≤ n) : Fdr w0 (w.setCell ⟨b, 1, none⟩ (.int .i64 i)) b a n c q nv ov :=
  ⟨R.bel.setCell (p := ⟨b, 1, none⟩) R.lo _, R.lo, by rw [Lib.heap_setCell_same R.box, hi]; rfl, hq⟩
theorem Fdr.setN (R : Fdr w0 w b a n c p nv ov) (v : Value) : Fdr w0 (w.setCell ⟨b, 2, none⟩ v) b a n c p v ov :=
  ⟨R.bel.setCell (p := ⟨b, 2, none⟩) R.lo _, R.lo, by rw [Lib.heap_setCell_same R.box]; rfl, R.le⟩
theorem Fdr.setO (R : Fdr w0 w b a n c p nv ov) (v : Value) : Fdr w0 (w.setCell ⟨b, 3, none⟩ v) b a n c p nv v :=
  ⟨R.bel.setCell (p := ⟨b, 3, none⟩) R.lo _, R.lo, by rw [Lib.heap_setCell_same R.box]; rfl, R.le⟩
/-- A row of the call's own, in none but later blocks, turns. -/
theorem Fdr.grow (R : Fdr w0 w b a n c p nv ov) {r : Option Nat} (hg : w.grownBy w' r) (hr : ∀ k, r = some k → b < k) : Fdr w0 w' b a n c p nv ov := by
  refine ⟨?_, R.lo, ?_, R.le⟩
  · exact R.bel.grown hg (Nat.le_of_lt (Nat.lt_of_le_of_lt R.lo R.lt)) (fun m hm => Nat.le_trans R.lo (Nat.le_of_lt (hr m hm)))
  · rw [hg.block b R.lt (fun e => absurd (hr b e.symm) (Nat.lt_irrefl _))]; exact R.box
theorem Fdr.new (R : Fdr w0 w b a n c p nv ov) {g i : Nat} (hg : w0.heap.size ≤ g) (hne : g ≠ b) (v : Value) : Fdr w0 (w.setCell ⟨g, i, none⟩ v) b a n c p nv ov :=
  ⟨R.bel.setCell (p := ⟨g, i, none⟩) hg _, R.lo, by rw [Below.heap_setCell _ _ _ _ (by simp only; exact hne.symm)]; exact R.box, R.le⟩
/-- The place that the reader in a block is at. -/
theorem Fdr.place (R : Fdr w0 w b a n c p nv ov) : placeOf b w = p := by
  unfold placeOf
  rw [R.c1]
  simp [intOf]
end
set_option maxHeartbeats 1000000 in
set_option maxRecDepth 100000 in
theorem ftakes_no {w0 : World} {a : Option Addr} {n c : Nat} {xs : List Tm} (G : Sg w0 a n c xs) {b p : Nat} {nv ov : Value} (k : Int) (s : ByteArray) (w : World) (R : Fdr w0 w b a n c p nv ov) (H : Hid ((xs.map ktm)[p]? ≠ some (k, s.data.toList))) :
    Calls Tryz.prog 131 #[.pointer (some ⟨b, 0, none⟩), .int .i64 k, .string s] w fun e w' => e = .returned (.bool false) ∧ Below w.heap.size w w' := by
  have hl := G.lies.on R.bel
  have hn := hl.len
  obtain ⟨r0, r1⟩ : _ ∧ _ := ⟨R.c0, R.c1⟩
  have hi := decide_eq_false (unhide H)
  clear G R
  by_cases hp : p < xs.length
  · obtain ⟨g, o, ha, hbl, c0, c1, c2, c3⟩ := hl.row.up hp
    subst ha
    rw [sign_at hp] at hi
    have dl : decide ((n : Int) ≤ (p : Int)) = false := decide_eq_false (by omega)
    have dn : ¬ n ≤ p := by omega
    have i0 : (0 : Int) ≤ (p : Int) := by omega
    have i1 : (p : Int) < (n : Int) := by omega
    have hc := hl.cap
    generalize xs[p] = x at c0 c1 c2 c3 hi
    clear H hl hn hp
    by_cases h5 : x.1 = k
    · have d5 : (x.1 != k) = false := by simp [h5]
      have hs : x.2.1 ≠ s := fun e => by simp [h5, e] at hi
      have ds : (x.2.1.toList == s.toList) = false := by
        rw [bytes_eq, decide_eq_false hs]
      clear hi h5 hs
      go_enter Tryz.func131, Tryz.ntmps131
      go_wp2_with fail
      go_quiet (fail)
      have hb1 := below_drewN (Below.refl w.heap.size w) nq
      generalize w.drewN nq = w1 at hb1 ⊢
      go_wp2_with fail
      go_ret
      exact ⟨rfl, hb1⟩
    · have d5 : (x.1 != k) = true := by simp [h5]
      clear hi h5
      go_enter Tryz.func131, Tryz.ntmps131
      go_wp2_with fail
      go_quiet (fail)
      have hb1 := below_drewN (Below.refl w.heap.size w) nq
      generalize w.drewN nq = w1 at hb1 ⊢
      go_wp2_with fail
      go_ret
      exact ⟨rfl, hb1⟩
  · have dl : decide ((n : Int) ≤ (p : Int)) = true := decide_eq_true (by omega)
    have dn : n ≤ p := by omega
    clear H hl hn hp hi
    go_enter Tryz.func131, Tryz.ntmps131
    go_wp2_with fail
    go_quiet (fail)
    have hb1 := below_drewN (Below.refl w.heap.size w) nq
    generalize w.drewN nq = w1 at hb1 ⊢
    go_wp2_with fail
    go_ret
    exact ⟨rfl, hb1⟩
set_option maxHeartbeats 1000000 in
set_option maxRecDepth 100000 in
theorem ftakes_yes {w0 : World} {a : Option Addr} {n c : Nat} {xs : List Tm} (G : Sg w0 a n c xs) {b p : Nat} {nv ov : Value} (k : Int) (s : ByteArray) (w : World) (R : Fdr w0 w b a n c p nv ov) (H : Hid ((xs.map ktm)[p]? = some (k, s.data.toList))) :
    Calls Tryz.prog 131 #[.pointer (some ⟨b, 0, none⟩), .int .i64 k, .string s] w fun e w' => e = .returned (.bool true) ∧ Fdr w0 w' b a n c (p + 1) nv ov ∧ Turns b w w' := by
  have hl := G.lies.on R.bel
  have hn := hl.len
  have hfew := G.few
  have hp : p < xs.length := by
    have := (List.getElem?_eq_some_iff.1 (unhide H)).1
    rwa [List.length_map] at this
  have hi := decide_eq_true (unhide H)
  obtain ⟨g, o, ha, hbl, c0, c1, c2, c3⟩ := hl.row.up hp
  subst ha
  rw [sign_at hp] at hi
  have hi2 := of_decide_eq_true hi
  have d5 : (xs[p].1 != k) = false := by simp [hi2.1]
  have ds : (xs[p].2.1.toList == s.toList) = true := by rw [bytes_eq, decide_eq_true hi2.2]
  have dl : decide ((n : Int) ≤ (p : Int)) = false := decide_eq_false (by omega)
  have dn : ¬ n ≤ p := by omega
  have i0 : (0 : Int) ≤ (p : Int) := by omega
  have i1 : (p : Int) < (n : Int) := by omega
  have hpn : p + 1 ≤ n := by omega
  have hc := hl.cap
  generalize xs[p] = x at c0 c1 c2 c3 d5 ds hi hi2
  obtain ⟨r0, r1⟩ : _ ∧ _ := ⟨R.c0, R.c1⟩
  clear H hl hn hp hi hi2 G
  go_enter Tryz.func131, Tryz.ntmps131
  go_wp2_with fail
  go_quiet (fail)
  have hb1 := below_drewN (Below.refl w.heap.size w) nq
  generalize w.drewN nq = w1 at hb1 ⊢
  have R1 := R.on hb1
  clear r0 r1 c0 c1 c2 c3 R
  obtain ⟨s1, f1⟩ : _ ∧ _ := ⟨R1.c1, R1.f1⟩
  go_wp2_with fail
  go_ret
  exact ⟨rfl, R1.set (by omega) hpn, (Turns.of hb1).tr (Turns.set _ _ _)⟩
set_option maxHeartbeats 2000000 in
set_option maxRecDepth 100000 in
theorem fisName_any {w0 : World} {a : Option Addr} {n c : Nat} {xs : List Tm} (G : Sg w0 a n c xs) {b p : Nat} {nv ov : Value} (q : Bool) (w : World) (R : Fdr w0 w b a n c p nv ov) (H : Hid (nameK (xs.map ktm) p = q)) :
    Calls Tryz.prog 132 #[.pointer (some ⟨b, 0, none⟩)] w fun e w' => e = .returned (.bool q) ∧ Below w.heap.size w w' := by
  have hl := G.lies.on R.bel
  have hn := hl.len
  have hsm := G.small
  obtain ⟨r0, r1⟩ : _ ∧ _ := ⟨R.c0, R.c1⟩
  clear G R
  by_cases hp : p < xs.length
  · obtain ⟨g, o, ha, hbl, c0, c1, c2, c3⟩ := hl.row.up hp
    subst ha
    have hi := unhide H
    rw [nameK_of (List.getElem?_eq_getElem hp)] at hi
    have hz := unhide hsm _ (List.getElem_mem hp)
    have dl : decide ((p : Int) < (n : Int)) = true := decide_eq_true (by omega)
    have i0 : (0 : Int) ≤ (p : Int) := by omega
    have i1 : (p : Int) < (n : Int) := by omega
    have hc := hl.cap
    generalize xs[p] = x at c0 c1 c2 c3 hi hz
    clear H hl hn hp hsm
    have F := fun V => name_any x.2.1 V (by unfold maxLen; omega)
    by_cases h5 : x.1 = 1
    · have d5 : (x.1 == 1) = true := by rw [h5]; rfl
      have HQ : Hid (nameB x.2.1.data.toList = q) := hide (by rw [← hi]; simp [h5])
      clear hi h5 hz
      go_enter Tryz.func132, Tryz.ntmps132
      go_wp2_with fail
      have F1 := cls (wr := w) (fun V _ => F V)
      have g0 := cell_regrown r0
      have g1 := cell_regrown r1
      have g2 := cell_regrown c0
      have g3 := cell_regrown c1
      clear F c0 c1 c2 c3 r0 r1
      refine wp_region_quiet_below (by kernel_rfl) (by kernel_rfl) ?_
      repeat (go_big_quiet_step (with_reducible exact F1 _ _))
      refine wpQuiet_nil ?_
      intro _ hw'
      obtain ⟨⟨dq, osq⟩, hw''⟩ := hw'
      subst hw''
      have hb2 := below_regrown w dq osq
      clear F1 g0 g1 g2 g3
      generalize Sort.grow (redrawn w dq) osq = w9 at hb2
      go_wp2_with fail
      go_ret
      exact ⟨ret_bool' (unhide HQ), hb2⟩
    · have d5 : (x.1 == 1) = false := by rw [beq_eq_false_iff_ne]; exact h5
      have HQ : Hid (false = q) := hide (by rw [← hi]; simp [h5])
      clear hi h5 F
      go_enter Tryz.func132, Tryz.ntmps132
      go_wp2_with fail
      go_quiet (fail)
      go_wp2_with fail
      go_ret
      exact ⟨ret_bool' (unhide HQ), below_drewN (Below.refl _ _) nq⟩
  · have HQ : Hid (false = q) := hide (by rw [← unhide H, nameK_out hp])
    have dl : ¬ p < n := by omega
    clear H hl hn hp hsm
    go_enter Tryz.func132, Tryz.ntmps132
    go_wp2_with fail
    go_quiet (fail)
    go_wp2_with fail
    go_ret
    exact ⟨ret_bool' (unhide HQ), below_drewN (Below.refl _ _) nq⟩

end Go.Proofs.YtcjnhhbcleljmaaGreatDoor.Sb
namespace Go.Proofs.YtcjnhhbcleljmaaGreatDoor.Sb
open Go.RowKit
open V

/-- The first kind whose word the sign at a place is. -/
def wordR (ks : List Kt) (p : Nat) (kinds : List Int) : Option Int := kinds.find? (fun k => decide (ks[p]? = some (1, wordN k)))
theorem wordR_cons (ks : List Kt) (p : Nat) (k : Int) (r : List Int) : wordR ks p (k :: r) = if ks[p]? = some (1, wordN k) then some k else wordR ks p r := by
  unfold wordR
  rw [List.find?_cons]
  by_cases h : ks[p]? = some (1, wordN k)
  · rw [decide_eq_true h, if_pos h]
  · rw [decide_eq_false h, if_neg h]
/-- What word answers. -/
def WordE (w0 w : World) (b : Nat) (a : Option Addr) (n c p : Nat) (nv ov : Value) (r : Option Int) (e : Ending) (w' : World) : Prop := match r with
  | some k => e = .returned (.int .i64 k) ∧ Fdr w0 w' b a n c (p + 1) nv ov ∧ Turns b w w'
  | none => e = .returned (.int .i64 0) ∧ Fdr w0 w' b a n c p nv ov ∧ Turns b w w'
theorem wordT_bs' {k : Nat} (h : 2 ≤ k) : wordT k = bs (wordN k) := by unfold wordT; rw [if_neg (by omega)]
set_option maxHeartbeats 4000000 in
set_option maxRecDepth 100000 in
theorem word_any {w0 : World} {a : Option Addr} {n c : Nat} {xs : List Tm} (G : Sg w0 a n c xs) {b p : Nat} {nv ov : Value} (g m mc : Nat) (kinds : List Int) (r : Option Int) (w : World) (hw : Wd w) (R : Fdr w0 w b a n c p nv ov)
    (hm : kinds.length = m) (_hmc : m ≤ mc) (_hm9 : m ≤ 9) (hk : Hid (∀ k ∈ kinds, 2 ≤ k ∧ k ≤ 8)) (hcell : Hid (∀ (j : Nat) (k : Int), kinds[j]? = some k → w.cell? ⟨g, j, none⟩ = some (.int .i64 k))) (H : Hid (wordR (xs.map ktm) p kinds = r)) :
    Calls Tryz.prog 175 #[.pointer (some ⟨b, 0, none⟩), .slice (some ⟨g, 0, none⟩) m mc] w fun e w' => WordE w0 w b a n c p nv ov r e w' := by
  go_enter Tryz.func175, Tryz.ntmps175
  go_wp2_with fail
  go_loopw [9] (fun i wr => ∃ k : Nat, k ≤ m ∧ i = .int .i64 k ∧ Hid (wordR (xs.map ktm) p (kinds.drop k) = r) ∧ Below w.heap.size w wr) (fun i _ => m - (intOf i).toNat)
  case atStart => exact ⟨0, Nat.zero_le _, rfl, H, Below.refl _ _⟩
  case round =>
    obtain ⟨k, hkm, rfl, HR, hbw⟩ := hrel
    have R1 := R.on hbw
    have hw1 := hw.on hbw
    by_cases hlt : k < m
    · have hkl : k < kinds.length := by omega
      have hx : kinds[k]? = some kinds[k] := List.getElem?_eq_getElem hkl
      have hrange := unhide hk _ (List.getElem_mem hkl)
      have e0 := cell_on hbw (unhide hcell k _ hx)
      have hd : kinds.drop k = kinds[k] :: kinds.drop (k + 1) := List.drop_eq_getElem_cons hkl
      have HR2 := unhide HR
      rw [hd, wordR_cons] at HR2
      generalize kinds[k] = kd at hrange e0 HR2
      obtain ⟨j, rfl⟩ : ∃ j : Nat, kd = (j : Int) := ⟨kd.toNat, by omega⟩
      have y0 := hw1 j (by omega)
      have hwt : (wordT j).data.toList = wordN (j : Int) := by rw [wordT_bs' (by omega)]
      have j0 : (0 : Int) ≤ (j : Int) := by omega
      have j1 : (j : Int) < 9 := by omega
      have i0 : (0 : Int) ≤ (k : Int) := by omega
      have i1 : (k : Int) < (m : Int) := by omega
      have F1 := hide (fun V (RV : Fdr w0 V b a n c p nv ov) h => ftakes_yes G 1 (wordT j) V RV h)
      have F2 := hide (fun V (RV : Fdr w0 V b a n c p nv ov) h => ftakes_no G 1 (wordT j) V RV h)
      by_cases hyes : (xs.map ktm)[p]? = some (1, wordN (j : Int))
      · have HH : Hid ((xs.map ktm)[p]? = some (1, (wordT j).data.toList)) := hide (by rw [hwt]; exact hyes)
        have HRR : Hid (r = some (j : Int)) := hide (by rw [← HR2, if_pos hyes])
        clear HR2 hyes HR hd hx hrange
        generalize wordT j = u at y0 hwt F1 F2 HH
        clear hwt F2
        go_wp2_with fail
        refine (unhide F1 wr R1 HH).mono ?_
        rintro e w2 ⟨rfl, R2, ht2⟩
        clear F1 y0 e0 HH R1 hw1
        go_wp2_with fail
        go_ret
        rw [unhide HRR]
        exact ⟨rfl, R2, (Turns.of hbw).tr ht2⟩
      · have HH : Hid ((xs.map ktm)[p]? ≠ some (1, (wordT j).data.toList)) := hide (by rw [hwt]; exact hyes)
        have HRR : Hid (wordR (xs.map ktm) p (kinds.drop (k + 1)) = r) := hide (by rw [← HR2, if_neg hyes])
        clear HR2 hyes HR hd hx hrange
        generalize wordT j = u at y0 hwt F1 F2 HH
        clear hwt F1
        go_wp2_with fail
        refine (unhide F2 wr R1 HH).mono ?_
        rintro e w2 ⟨rfl, hb2⟩
        clear F2 y0 e0 HH R1 hw1
        go_wp2_with fail
        go_roundw
        case rel => exact ⟨k + 1, by omega, by go_num, HRR, bt hbw hb2⟩
        case measure => simp [intOf]; omega
    · have hkm' : k = m := by omega
      have HRR : Hid (r = none) := hide (by
        rw [← unhide HR, List.drop_eq_nil_of_le (by omega)]; rfl)
      clear HR hw1
      go_wp2_with fail
      go_ret
      rw [unhide HRR]
      exact ⟨rfl, R1, Turns.of hbw⟩
theorem kOpen_of (ks : List Kt) (p : Nat) : kOpen ks p = match wordR ks p [2, 5, 6, 7] with
    | some k => some k
    | none => if ks[p]? = some (5, [40]) then some 0 else none := by
  rw [wordR_cons, wordR_cons, wordR_cons, wordR_cons]
  unfold kOpen
  cases hp : ks[p]? with
  | none => rfl
  | some t =>
    simp only [Option.bind_some, Option.some.injEq]
    unfold openT
    by_cases h1 : t = (1, wordN 2)
    · rw [if_pos h1, if_pos h1]
    rw [if_neg h1, if_neg h1]
    by_cases h2 : t = (1, wordN 5)
    · rw [if_pos h2, if_pos h2]
    rw [if_neg h2, if_neg h2]
    by_cases h3 : t = (1, wordN 6)
    · rw [if_pos h3, if_pos h3]
    rw [if_neg h3, if_neg h3]
    by_cases h4 : t = (1, wordN 7)
    · rw [if_pos h4, if_pos h4]
    rw [if_neg h4, if_neg h4]
    rfl
theorem kTwo_of (ks : List Kt) (p : Nat) : kTwo ks p = wordR ks p [3, 4, 8] := by
  rw [wordR_cons, wordR_cons, wordR_cons]
  unfold kTwo
  cases hp : ks[p]? with
  | none => rfl
  | some t =>
    simp only [Option.bind_some, Option.some.injEq]
    unfold twoT
    by_cases h1 : t = (1, wordN 3)
    · rw [if_pos h1, if_pos h1]
    rw [if_neg h1, if_neg h1]
    by_cases h2 : t = (1, wordN 4)
    · rw [if_pos h2, if_pos h2]
    rw [if_neg h2, if_neg h2]
    by_cases h3 : t = (1, wordN 8)
    · rw [if_pos h3, if_pos h3]
    rw [if_neg h3, if_neg h3]
    rfl
end Go.Proofs.YtcjnhhbcleljmaaGreatDoor.Sb
namespace Go.Proofs.YtcjnhhbcleljmaaGreatDoor.Sb
open Go.RowKit
open V

/-- Of what lies below block B the block b alone has turned. -/
structure Kp (b B : Nat) (w w' : World) : Prop where
  lo : b < B
  hi : B ≤ w.heap.size
  os : w'.os = w.os
  tape : w'.tape = w.tape
  output : w'.output = w.output
  size : w.heap.size ≤ w'.heap.size
  block : ∀ k, k < B → k ≠ b → w'.heap[k]? = w.heap[k]?
section
variable {w w1 w2 : World} {b B : Nat}
theorem Kp.refl (lo : b < B) (hi : B ≤ w.heap.size) : Kp b B w w := ⟨lo, hi, rfl, rfl, rfl, Nat.le_refl _, fun _ _ _ => rfl⟩
theorem Kp.trans (h : Kp b B w w1) (k : Kp b B w1 w2) : Kp b B w w2 := ⟨h.lo, h.hi, k.os.trans h.os, k.tape.trans h.tape, k.output.trans h.output, Nat.le_trans h.size k.size, fun i hi hne => (k.block i hi hne).trans (h.block i hi hne)⟩
theorem Kp.at (h : Kp b B w w1) : B ≤ w1.heap.size := Nat.le_trans h.hi h.size
theorem Kp.refl' (h : Kp b B w w1) : Kp b B w1 w1 := Kp.refl h.lo h.at
theorem Kp.on (h : Kp b B w w1) (k : Below w1.heap.size w1 w2) : Kp b B w w2 :=
  h.trans ⟨h.lo, h.at, k.os, k.tape, k.output, k.size, fun i hi _ => k.block i (Nat.lt_of_lt_of_le hi h.at)⟩
theorem Kp.grow {r : Option Nat} (h : Kp b B w w1) (k : w1.grownBy w2 r) (hr : ∀ m, r = some m → m = b ∨ B ≤ m) : Kp b B w w2 :=
  h.trans ⟨h.lo, h.at, k.os, k.tape, k.output, k.size, fun i hi hne => k.block i (Nat.lt_of_lt_of_le hi h.at) (fun e => by
    rcases hr i e.symm with h1 | h1
    · exact hne h1
    · omega)⟩
theorem Kp.turn (h : Kp b B w w1) (k : Turns b w1 w2) : Kp b B w w2 := h.grow k (fun _ hm => Or.inl (Option.some.inj hm).symm)
theorem Kp.set (h : Kp b B w w1) {p : Addr} (hp : p.block = b ∨ B ≤ p.block) (u : Value) : Kp b B w (w1.setCell p u) :=
  h.trans ⟨h.lo, h.at, rfl, rfl, rfl, by simp [World.setCell], fun i hi hne => Below.heap_setCell _ _ _ _ (fun e => by
    rcases hp with h1 | h1
    · exact hne (e.trans h1)
    · omega)⟩
theorem Kp.turns (h : Kp b w.heap.size w w1) : Turns b w w1 := ⟨h.os, h.tape, h.output, h.size, fun k hk hne => h.block k hk (fun e => hne (by rw [e]))⟩
theorem Kp.below (h : Kp b B w w1) : Below b w w1 := ⟨h.os, h.tape, h.output, h.size, fun k hk => h.block k (Nat.lt_trans hk h.lo) (Nat.ne_of_lt hk)⟩
end
/-- The rows of the reader in block b: its nodes', its open ones' (the last one ahead), all later (from block B on) and apart. -/
structure Frm (w : World) (B : Nat) (nv : Value) (zs : List Nz) (ov : Value) (st : List Opn) : Prop where
  n : OwnN w B nv zs
  o : w.ownsRow B 216 2 ov st.length (flatQ st.reverse)
  no : Apart nv ov
  zo : ∀ z ∈ zs, Apart (.slice z.a z.m z.mc) ov
section
variable {w w' : World} {b B : Nat} {nv : Value} {zs : List Nz} {ov : Value} {st : List Opn}
theorem Frm.on (F : Frm w B nv zs ov st) (hb : Below w.heap.size w w') : Frm w' B nv zs ov st := ⟨F.n.on hb, own_on F.o hb, F.no, F.zo⟩
theorem Frm.turn (F : Frm w B nv zs ov st) (ht : Turns b w w') (hB : b < B) : Frm w' B nv zs ov st := ⟨F.n.turn ht hB, own_turn F.o ht hB, F.no, F.zo⟩
theorem Frm.nil (w : World) (B : Nat) : Frm w B (.slice none 0 0) [] (.slice none 0 0) [] := ⟨OwnN.nil _ _, World.ownsRow_nil _ _ _ _, apart_none _, fun z hz => by cases hz⟩
/-- One more node. -/
theorem Frm.add {wr w1 w2 : World} {v' u : Value} {y : Nz} (F : Frm w1 B nv zs ov st) (hn : ∀ m, nv.ownBlock = some m → m < wr.heap.size) (ho : ∀ m, ov.ownBlock = some m → m < wr.heap.size) (hB : B ≤ wr.heap.size) (hy : y.Own w1 wr.heap.size u)
    (hr : w2.ownsRow B 72 5 v' (zs.length + 1) (flatNs (zs ++ [y]))) (hg : w1.grownBy w2 nv.ownBlock) (h5 : v'.ownBlock = nv.ownBlock ∨ v'.ownBlock = some w1.heap.size) : Frm w2 B v' (zs ++ [y]) ov st := by
  have hov : Apart ov nv := fun k h1 h2 => F.no k h2 h1
  refine ⟨F.n.add hn hB hy hr hg h5, F.o.kept hg hov.ne, ?_, fun z hz => ?_⟩
  · have h1 : Apart ov v' := apart_to hov h5 (fun m hm => (F.o.lt m hm).2)
    exact fun k h2 h3 => h1 k h3 h2
  · rcases List.mem_append.1 hz with hz | hz
    · exact F.zo z hz
    · rw [List.mem_singleton.1 hz]
      exact apart_less (s := wr.heap.size) (fun m hm => (hy.t.lt m hm).1) ho
/-- One more that is open. -/
theorem Frm.push {w1 w2 : World} {v' : Value} {t : Opn} (F : Frm w1 B nv zs ov st) (hr : w2.ownsRow B 216 2 v' (st.length + 1) (flatQ (st.reverse ++ [t]))) (hg : w1.grownBy w2 ov.ownBlock) (h5 : v'.ownBlock = ov.ownBlock ∨ v'.ownBlock = some w1.heap.size) : Frm w2 B nv zs v' (t :: st) := by
  refine ⟨F.n.next hg F.no F.zo, ?_, apart_to F.no h5 (fun m hm => (F.n.row.lt m hm).2), fun z hz => apart_to (F.zo z hz) h5 (fun m hm => ((F.n.all z hz).t.lt m hm).2)⟩
  rw [List.reverse_cons, List.length_cons]
  exact hr
end
theorem Turns.seti (b i : Nat) (w : World) (v : Value) : Turns b w (w.setCell ⟨b, i, none⟩ v) := by
  have h : Below b w (w.setCell ⟨b, i, none⟩ v) := (Below.refl b w).setCell (p := ⟨b, i, none⟩) (Nat.le_refl _) _
  exact ⟨h.os, h.tape, h.output, h.size, fun k _ hne => Below.heap_setCell _ _ _ _ (fun e => hne (by rw [e]))⟩
abbrev emptyN (k A B : Int) : Nz := ⟨k, ⟨#[]⟩, none, 0, 0, [], A, B⟩
theorem emptyN_own (k A B : Int) (w : World) (B' : Nat) (v : Value) : (emptyN k A B).Own w B' v := ⟨World.ownsRow_nil _ _ _ _, fun k h => by cases h⟩
/-- What add does: one more than may be is kept, no more. -/
def addZ (zs : List Nz) (z : Nz) : List Nz := if zs.length ≤ 40 then zs ++ [z] else zs
set_option maxHeartbeats 4000000 in
set_option maxRecDepth 100000 in
theorem add_full {w0 : World} {a : Option Addr} {n c : Nat} {b B p : Nat} {nv ov : Value} {zs : List Nz} {st : List Opn} (z : Nz) (w : World) (R : Fdr w0 w b a n c p nv ov) (F : Frm w B nv zs ov st) (h : ¬ zs.length ≤ 40) :
    Calls Tryz.prog 129 #[.pointer (some ⟨b, 0, none⟩), aggN z] w fun e w' => e = .returned (.tuple #[]) ∧ Below w.heap.size w w' := by
  have hb0 := below_new w (bxNd z)
  have R0 := R.on hb0
  obtain ⟨q, cq, rfl⟩ := own_slice F.n.row
  have r2 := R0.c2
  have d1 : decide ((zs.length : Int) ≤ 40) = false := decide_eq_false (by omega)
  clear F R R0 h
  go_enter Tryz.func129, Tryz.ntmps129
  go_wp2_with fail
  first | exact bodyPost_ret (results_none rfl _ _ _) rfl ⟨rfl, hb0⟩ | exact bodyPost_end (results_none rfl _ _ _) rfl ⟨rfl, hb0⟩
set_option maxHeartbeats 4000000 in
set_option maxRecDepth 100000 in
theorem add_one {w0 : World} {a : Option Addr} {n c : Nat} {b B p : Nat} {nv ov : Value} {zs : List Nz} {st : List Opn} (z : Nz) (wr : World) (w : World) (R : Fdr w0 w b a n c p nv ov) (F : Frm w B nv zs ov st) (hn : ∀ m, nv.ownBlock = some m → m < wr.heap.size) (ho : ∀ m, ov.ownBlock = some m → m < wr.heap.size) (hB : B ≤ wr.heap.size) (hbB : b < B) (hBw : B ≤ w.heap.size) (u : Value) (hy : z.Own w wr.heap.size u) (h : zs.length ≤ 40) :
    Calls Tryz.prog 129 #[.pointer (some ⟨b, 0, none⟩), aggN z] w fun e w' => e = .returned (.tuple #[]) ∧ ∃ v', Fdr w0 w' b a n c p v' ov ∧ Frm w' B v' (zs ++ [z]) ov st ∧ Kp b B w w' := by
  have hb0 := below_new w (bxNd z)
  have T0 := bn_of (heap_alloc_new w (bxNd z))
  have R0 := R.on hb0
  have F0 := F.on hb0
  have hy0 := hy.on hb0
  have hb00 : Kp b B w (w.alloc (bxNd z)) := (Kp.refl hbB hBw).on hb0
  obtain ⟨q, cq, rfl⟩ := own_slice F.n.row
  have d1 : decide ((zs.length : Int) ≤ 40) = true := decide_eq_true (by omega)
  have hsz0 := hb0.size
  clear F R hy hb0
  go_enter Tryz.func129, Tryz.ntmps129
  go_upto_region 1 with fail
  generalize w.alloc (bxNd z) = W at T0 R0 F0 hy0 hb00 hsz0 ⊢
  obtain ⟨c0, c1, c2, c3, c4⟩ := T0
  obtain ⟨r2, g2⟩ : _ ∧ _ := ⟨R0.c2, R0.f2⟩
  have hWA : Below W.heap.size W (W.drew.alloc (bxNd z)) := bt (Below.refl _ _).drew (below_new W.drew (bxNd z))
  have HOW := own_on F0.n.row hWA
  have hcl := hide (cells_nd (heap_alloc_new W.drew (bxNd z)))
  have hs8 : B ≤ (W.drew.alloc (bxNd z)).heap.size := by have := hWA.size; have := hb00.at; omega
  have RA := R0.on hWA
  have rA2 := RA.c2
  have rB2 := cell_on (below_new W (bxNd z)) r2
  obtain ⟨i0, hi, hz0, hz1, hz2⟩ := info_parts infoN
  have hl40 : zs.length ≤ 40 := h
  go_upto_region 2 with fail
  go_region_law (refine step_append_at (by rfl) _ _ 43 (by rfl) B 72 i0 (.agg #[.int .i64 0, .string ⟨#[]⟩, .slice none 0 0, .int .i64 0, .int .i64 0]) 5 64 Tryz.underlying43 hi hz0 hz1 hz2 (by rfl) (by decide) (.slice q zs.length cq) zs.length (flatNs zs) (by rfl) HOW ⟨W.heap.size, 0, none⟩ 1 1 (flatN z) (by rfl) (by rfl) (unhide hcl) (oneCell_nd z) (by unfold maxLen; omega) (by omega) hs8 ?_; intro v' w9 hr9 hg9 h59; obtain ⟨q9, c9, rfl⟩ := own_slice hr9; have R9 := RA.grow hg9 (fun k hk => Nat.lt_of_lt_of_le hbB (HOW.lt k hk).1); have t2 := R9.c2; have t4 := R9.f2)
  all_goals
    have F9 := (Frm.add (F0.on hWA) hn ho hB (hy0.on hWA) (by rw [flatNs_app, flatNs_one]; exact hr9) hg9 h59).turn (Turns.seti b 2 w9 (.slice q9 (zs.length + 1) c9)) hbB
    have RF := R9.setN (.slice q9 (zs.length + 1) c9)
    have hbF : Kp b B w (w9.setCell ⟨b, 2, none⟩ (.slice q9 (zs.length + 1) c9)) := ((hb00.on hWA).grow hg9 (fun k hk => Or.inr (HOW.lt k hk).1)).set (p := ⟨b, 2, none⟩) (Or.inl rfl) _
    clear F0 R0 RA HOW hcl rA2 rB2 hr9 hg9 h59 R9 c0 c1 c2 c3 c4 r2 g2
    go_wp2_with fail
    first | exact bodyPost_ret (results_none rfl _ _ _) rfl ⟨rfl, _, RF, F9, hbF⟩ | exact bodyPost_end (results_none rfl _ _ _) rfl ⟨rfl, _, RF, F9, hbF⟩
end Go.Proofs.YtcjnhhbcleljmaaGreatDoor.Sb
namespace Go.Proofs.YtcjnhhbcleljmaaGreatDoor.Sb
open Go.RowKit
open V

/-- What stands ahead of an atom: the words and brackets. -/
def openR (ks : List Kt) : Nat → Nat → List Opn × Nat
  | 0, p => ([], p)
  | m + 1, p => match kOpen ks p with
    | none => ([], p)
    | some k => ((openR ks m (p + 1)).1 ++ [(k, 0)], (openR ks m (p + 1)).2)
theorem openR_none {ks : List Kt} {m p : Nat} (h : kOpen ks p = none) : openR ks m p = ([], p) := by
  cases m with
  | zero => rfl
  | succ m => simp only [openR, h]
theorem openR_some {ks : List Kt} {m p : Nat} {k : Int} (h : kOpen ks p = some k) : openR ks (m + 1) p = ((openR ks m (p + 1)).1 ++ [(k, 0)], (openR ks m (p + 1)).2) := by
  simp only [openR, h]
/-- Pass them: the rest is the same. -/
theorem formF_pass {ks : List Kt} : ∀ {m : Nat} {st : List Opn} {ns : List Np} {p : Nat}, ks.length < p + m → p ≤ ks.length → ∃ (s : List Opn) (q j : Nat), formF ks m st ns p = formF ks (j + 1) (s ++ st) ns q ∧ kOpen ks q = none ∧ ks.length < q + (j + 1) ∧ p ≤ q ∧ q ≤ ks.length ∧ s.length + p ≤ q ∧ openR ks m p = (s, q) ∧ (∀ t ∈ s, t.2 = 0) := by
  intro m
  induction m with
  | zero => intro st ns p h1 h2; omega
  | succ m ih =>
    intro st ns p h1 h2
    cases ho : kOpen ks p with
    | none => exact ⟨[], p, m, rfl, ho, by omega, Nat.le_refl _, h2, by simp, openR_none ho, fun t h => by cases h⟩
    | some k =>
      have hlt := kOpen_lt ho
      obtain ⟨s, q, j, e1, e2, e3, e4, e5, e6, e7, e8⟩ := ih (st := (k, 0) :: st) (ns := ns) (p := p + 1) (by omega) (by omega)
      refine ⟨s ++ [(k, 0)], q, j, ?_, e2, e3, by omega, e5, by simp; omega, ?_, ?_⟩
      · rw [formF_open ho, e1, List.append_assoc]; rfl
      · rw [openR_some ho, e7]
      · intro t ht
        rcases List.mem_append.1 ht with ht | ht
        · exact e8 t ht
        · rw [List.mem_singleton.1 ht]
set_option maxHeartbeats 8000000 in
set_option maxRecDepth 100000 in
theorem passOpening_any {w0 : World} {a : Option Addr} {n c : Nat} {xs : List Tm} (G : Sg w0 a n c xs) (hw : Wd w0) {b B p : Nat} {nv ov : Value} {zs : List Nz} {st : List Opn} (m : Nat) (s : List Opn) (q : Nat) (w : World) (R : Fdr w0 w b a n c p nv ov) (F : Frm w B nv zs ov st) (hbB : b < B) (hBw : B ≤ w.heap.size) (hst : st.length ≤ p) (hm : n < p + m) (H : Hid (openR (xs.map ktm) m p = (s, q))) :
    Calls Tryz.prog 127 #[.pointer (some ⟨b, 0, none⟩)] w fun e w' => e = .returned (.tuple #[]) ∧ ∃ ov', Fdr w0 w' b a n c q nv ov' ∧ Frm w' B nv zs ov' (s ++ st) ∧ Kp b B w w' := by
  have hlen := G.len
  have hfew := G.few
  go_enter Tryz.func127, Tryz.ntmps127
  go_wp2_with fail
  go_loopw [] (fun wr => ∃ (j r : Nat) (s1 s2 cs : List Opn) (ov1 : Value), Hid (cs = s1 ++ st) ∧ p ≤ r ∧ n < r + j ∧ Hid (openR (xs.map ktm) j r = (s2, q)) ∧ Hid (s = s2 ++ s1) ∧ cs.length ≤ r ∧ Fdr w0 wr b a n c r nv ov1 ∧ Frm wr B nv zs ov1 cs ∧ Kp b B w wr) (fun wr => n - placeOf b wr)
  case atStart => exact ⟨m, p, [], s, st, ov, hide rfl, Nat.le_refl _, hm, H, hide (by simp), hst, R, F, Kp.refl hbB hBw⟩
  case round =>
    obtain ⟨j, r, s1, s2, cs, ov1, HCS, hpr, hj, HR, HS, hsl, R1, F1, hbw⟩ := hrel
    have hpl := R1.place
    have hrn := R1.le
    have hbx := below_new wr (.cells #[.int .i64 2, .int .i64 5, .int .i64 6, .int .i64 7] 3)
    have hnw := heap_alloc_new wr (.cells #[.int .i64 2, .int .i64 5, .int .i64 6, .int .i64 7] 3)
    have RX := R1.on hbx
    have FX := F1.on hbx
    have hbw1 : Kp b B w (wr.alloc (.cells #[.int .i64 2, .int .i64 5, .int .i64 6, .int .i64 7] 3)) := hbw.on hbx
    have hcell : Hid (∀ (i : Nat) (k : Int), ([2, 5, 6, 7] : List Int)[i]? = some k → (wr.alloc (.cells #[.int .i64 2, .int .i64 5, .int .i64 6, .int .i64 7] 3)).cell? ⟨wr.heap.size, i, none⟩ = some (.int .i64 k)) := hide (fun i k hk => by
      rw [Lib.cell_of_heap hnw]
      match i, hk with
      | 0, hk => cases hk; rfl
      | 1, hk => cases hk; rfl
      | 2, hk => cases hk; rfl
      | 3, hk => cases hk; rfl
      | i + 4, hk => cases hk)
    obtain ⟨rw_, hrw⟩ : ∃ o, wordR (xs.map ktm) r [2, 5, 6, 7] = o := ⟨_, rfl⟩
    have HKO := hide (kOpen_of (xs.map ktm) r)
    have FW := hide (word_any G wr.heap.size 4 4 [2, 5, 6, 7] rw_ _ (hw.on RX.bel) RX rfl (Nat.le_refl _) (by decide) (hide (by decide)) hcell (hide hrw))
    have HRW := hide hrw
    clear R F R1 F1 hbw hcell hrw H hbx hnw
    go_wp2_with fail
    generalize wr.alloc (.cells #[.int .i64 2, .int .i64 5, .int .i64 6, .int .i64 7] 3) = W at RX FX hbw1 FW ⊢
    refine (unhide FW).mono ?_
    rintro e w1 hE
    clear FW
    cases rw_ with
    | some kk =>
      obtain ⟨rfl, R2, ht2⟩ := hE
      have hk2 : 2 ≤ kk ∧ kk ≤ 7 := by
        have := List.mem_of_find?_eq_some (unhide HRW)
        simp only [List.mem_cons, List.not_mem_nil, or_false] at this
        omega
      have hko : kOpen (xs.map ktm) r = some kk := by rw [unhide HKO, unhide HRW]
      have hlt := kOpen_lt hko
      rw [hlen] at hlt
      obtain ⟨j, rfl⟩ : ∃ i, j = i + 1 := ⟨j - 1, by omega⟩
      obtain ⟨s3, hs3⟩ : ∃ s3, openR (xs.map ktm) j (r + 1) = (s3, q) ∧ s2 = s3 ++ [(kk, 0)] := by
        have h := unhide HR
        rw [openR_some hko] at h
        exact ⟨_, Prod.ext rfl (Prod.mk.inj h).2, (Prod.mk.inj h).1.symm⟩
      have HR3 := hide hs3.1
      have HS3 : Hid (s = s3 ++ ((kk, 0) :: s1)) := hide (by rw [unhide HS, hs3.2]; simp)
      have F2 := FX.turn ht2 hbB
      have dk : (kk == 0) = false := beq_eq_false_iff_ne.2 (by omega)
      have hW : b ≤ W.heap.size := Nat.le_of_lt RX.lt
      clear HR HS HRW HKO hko hs3 hk2 FX RX
      generalize w1 = w2 at R2 ht2 F2 ⊢
      have ht2b : Kp b B w w2 := hbw1.turn ht2
      have hcells := F2.o
      obtain ⟨oq, oc, rfl⟩ := own_slice F2.o
      obtain ⟨r3, f3⟩ : _ ∧ _ := ⟨R2.c3, R2.f3⟩
      have hby := below_new w2 (.cells #[.int .i64 kk, .int .i64 0] 216)
      have hnew : Hid ((w2.alloc (.cells #[.int .i64 kk, .int .i64 0] 216)).heap[w2.heap.size]? = some (.cells #[.int .i64 ((kk, 0) : Qq).1, .int .i64 ((kk, 0) : Qq).2] 216 (0, 0))) := hide (heap_alloc_new w2 _)
      have hown := own_on F2.o hby
      have hrl : cs.reverse.length = cs.length := List.length_reverse
      have hown' : (w2.alloc (.cells #[.int .i64 kk, .int .i64 0] 216)).ownsRow B 216 2 (.slice oq cs.length oc) cs.reverse.length (flatQ cs.reverse) := by rw [hrl]; exact hown
      have hl2 : cs.reverse.length ≤ 20000 := by omega
      have hs8 : B ≤ (w2.alloc (.cells #[.int .i64 kk, .int .i64 0] 216)).heap.size := (ht2b.on hby).at
      have RA := R2.on hby
      have FA := F2.on hby
      have hbA : Kp b B w (w2.alloc (.cells #[.int .i64 kk, .int .i64 0] 216)) := ht2b.on hby
      clear hown hcells
      go_wp2_with (at_builtin; refine app_op' rfl _ _ rfl B (.slice oq cs.length oc) cs.reverse (kk, 0) w2.heap.size rfl rfl hown' hnew hl2 hs8 ?_)
      intro v' w3 hr hg h5
      obtain ⟨q9, c9, rfl⟩ := own_slice hr
      have R3 := RA.grow hg (fun k hk => Nat.lt_of_lt_of_le hbB (hown'.lt k hk).1)
      have F3 := (FA.push (t := (kk, 0)) hr hg (by simpa using h5)).turn (Turns.seti b 3 w3 (.slice q9 (cs.length + 1) c9)) hbB
      have hbF : Kp b B w (w3.setCell ⟨b, 3, none⟩ (.slice q9 (cs.length + 1) c9)) := (hbA.grow hg (fun k hk => Or.inr (hown'.lt k hk).1)).set (p := ⟨b, 3, none⟩) (Or.inl rfl) _
      have RF := R3.setO (.slice q9 (cs.length + 1) c9)
      obtain ⟨t3, g3⟩ : _ ∧ _ := ⟨R3.c3, R3.f3⟩
      have hplF := RF.place
      clear hr hg h5 hown' hnew FA RA hbA R2 F2 r3 f3 hby R3
      go_wp2_with fail
      go_roundw
      case rel => exact ⟨j, r + 1, (kk, 0) :: s1, s3, (kk, 0) :: cs, _, hide (by rw [unhide HCS]; rfl), by omega, by omega, HR3, HS3, by simp only [List.length_cons]; omega, RF, F3, hbF⟩
      case measure => rw [hpl, hplF]; omega
    | none =>
      obtain ⟨rfl, R2, ht2⟩ := hE
      have F2 := FX.turn ht2 hbB
      have hW : b ≤ W.heap.size := Nat.le_of_lt RX.lt
      have hlB := Nat.le_of_lt R2.lt
      by_cases h40 : (xs.map ktm)[r]? = some (5, [40])
      · have hko : kOpen (xs.map ktm) r = some 0 := by rw [unhide HKO, unhide HRW]; simp only; rw [if_pos h40]
        have hlt := kOpen_lt hko
        rw [hlen] at hlt
        obtain ⟨j, rfl⟩ : ∃ i, j = i + 1 := ⟨j - 1, by omega⟩
        obtain ⟨s3, hs3⟩ : ∃ s3, openR (xs.map ktm) j (r + 1) = (s3, q) ∧ s2 = s3 ++ [(0, 0)] := by
          have h := unhide HR
          rw [openR_some hko] at h
          exact ⟨_, Prod.ext rfl (Prod.mk.inj h).2, (Prod.mk.inj h).1.symm⟩
        have HR3 := hide hs3.1
        have HS3 : Hid (s = s3 ++ ((0, 0) :: s1)) := hide (by rw [unhide HS, hs3.2]; simp)
        have HH : Hid ((xs.map ktm)[r]? = some (5, (⟨#[40]⟩ : ByteArray).data.toList)) := hide h40
        clear HR HS HRW HKO hko hs3 h40 FX RX
        go_wp2_with fail
        refine (ftakes_yes G 5 ⟨#[40]⟩ w1 R2 HH).mono ?_
        rintro e w2 ⟨rfl, R4, ht4⟩
        have F4 := F2.turn ht4 hbB
        have ht24 := ht2.tr ht4
        clear R2 F2 ht2 ht4 HH
        have ht2b : Kp b B w w2 := hbw1.turn ht24
        have hcells := F4.o
        obtain ⟨oq, oc, rfl⟩ := own_slice F4.o
        obtain ⟨r3, f3⟩ : _ ∧ _ := ⟨R4.c3, R4.f3⟩
        have hby := below_new w2 (.cells #[.int .i64 0, .int .i64 0] 216)
        have hnew : Hid ((w2.alloc (.cells #[.int .i64 0, .int .i64 0] 216)).heap[w2.heap.size]? = some (.cells #[.int .i64 ((0, 0) : Qq).1, .int .i64 ((0, 0) : Qq).2] 216 (0, 0))) := hide (heap_alloc_new w2 _)
        have hown := own_on F4.o hby
        have hrl : cs.reverse.length = cs.length := List.length_reverse
        have hown' : (w2.alloc (.cells #[.int .i64 0, .int .i64 0] 216)).ownsRow B 216 2 (.slice oq cs.length oc) cs.reverse.length (flatQ cs.reverse) := by rw [hrl]; exact hown
        have hl2 : cs.reverse.length ≤ 20000 := by omega
        have hs8 : B ≤ (w2.alloc (.cells #[.int .i64 0, .int .i64 0] 216)).heap.size := (ht2b.on hby).at
        have RA := R4.on hby
        have FA := F4.on hby
        have hbA : Kp b B w (w2.alloc (.cells #[.int .i64 0, .int .i64 0] 216)) := ht2b.on hby
        clear hown hcells
        go_wp2_with (at_builtin; refine app_op' rfl _ _ rfl B (.slice oq cs.length oc) cs.reverse (0, 0) w2.heap.size rfl rfl hown' hnew hl2 hs8 ?_)
        intro v' w3 hr hg h5
        obtain ⟨q9, c9, rfl⟩ := own_slice hr
        have R3 := RA.grow hg (fun k hk => Nat.lt_of_lt_of_le hbB (hown'.lt k hk).1)
        have F3 := (FA.push (t := (0, 0)) hr hg (by simpa using h5)).turn (Turns.seti b 3 w3 (.slice q9 (cs.length + 1) c9)) hbB
        have hbF : Kp b B w (w3.setCell ⟨b, 3, none⟩ (.slice q9 (cs.length + 1) c9)) := (hbA.grow hg (fun k hk => Or.inr (hown'.lt k hk).1)).set (p := ⟨b, 3, none⟩) (Or.inl rfl) _
        have RF := R3.setO (.slice q9 (cs.length + 1) c9)
        obtain ⟨t3, g3⟩ : _ ∧ _ := ⟨R3.c3, R3.f3⟩
        have hplF := RF.place
        clear hr hg h5 hown' hnew FA RA hbA R4 F4 r3 f3 hby R3
        go_wp2_with fail
        go_roundw
        case rel => exact ⟨j, r + 1, (0, 0) :: s1, s3, (0, 0) :: cs, _, hide (by rw [unhide HCS]; rfl), by omega, by omega, HR3, HS3, by simp only [List.length_cons]; omega, RF, F3, hbF⟩
        case measure => rw [hpl, hplF]; omega
      · have hko : kOpen (xs.map ktm) r = none := by rw [unhide HKO, unhide HRW]; simp only; rw [if_neg h40]
        have hsq : s2 = [] ∧ q = r := by
          have h := unhide HR
          rw [openR_none hko] at h
          exact ⟨(Prod.mk.inj h).1.symm, (Prod.mk.inj h).2.symm⟩
        have HH : Hid ((xs.map ktm)[r]? ≠ some (5, (⟨#[40]⟩ : ByteArray).data.toList)) := hide h40
        have HSS : Hid (s = s1) := hide (by rw [unhide HS, hsq.1]; rfl)
        have HQ : Hid (q = r) := hide hsq.2
        clear HR HS HRW HKO hko h40 FX hsq
        go_wp2_with fail
        refine (ftakes_no G 5 ⟨#[40]⟩ w1 R2 HH).mono ?_
        rintro e w2 ⟨rfl, hb2⟩
        have R4 := R2.on hb2
        have F4 := F2.on hb2
        have hbF : Kp b B w w2 := (hbw1.turn ht2).on hb2
        clear R2 F2 HH
        go_wp2_with fail
        rw [unhide HCS] at F4
        rw [unhide HSS, unhide HQ]
        first | exact bodyPost_ret (results_none rfl _ _ _) rfl ⟨rfl, _, R4, F4, hbF⟩ | exact bodyPost_end (results_none rfl _ _ _) rfl ⟨rfl, _, R4, F4, hbF⟩
end Go.Proofs.YtcjnhhbcleljmaaGreatDoor.Sb
namespace Go.Proofs.YtcjnhhbcleljmaaGreatDoor.Sb
open Go.RowKit
open V
open Ex (RowO LiesO flatO liesO_own)

/-- What reader.atom answers; the terms lie in memory of their own from block B on. -/
def FtmRes (w0 w : World) (b : Nat) (a : Option Addr) (n c : Nat) (nv ov : Value) (r : Except Nat (At × Nat)) (e : Ending) (w' : World) : Prop := match r with
  | .ok x => (∃ (s : ByteArray) (ao : Option Addr) (m mc : Nat), e = .returned (.tuple #[.agg #[.string s, .slice ao m mc], .bool true]) ∧ s.data.toList = (cutA x.1).1 ∧ w'.ownsRow w.heap.size 141 4 (.slice ao m mc) m (flatB (cutA x.1).2)) ∧ Fdr w0 w' b a n c x.2 nv ov ∧ Turns b w w'
  | .error q => e = .returned (.tuple #[.agg #[.string ⟨#[]⟩, .slice none 0 0], .bool false]) ∧ Fdr w0 w' b a n c q nv ov ∧ Turns b w w'
set_option maxHeartbeats 4000000 in
set_option maxRecDepth 100000 in
theorem fatom_bad_any {w0 : World} {a : Option Addr} {n c : Nat} {xs : List Tm} (G : Sg w0 a n c xs) {b p : Nat} {nv ov : Value} (q : Nat) (w : World) (R : Fdr w0 w b a n c p nv ov) (H : Hid (readAt ((xs.map ktm).drop p) p = .error q)) :
    Calls Tryz.prog 128 #[.pointer (some ⟨b, 0, none⟩)] w fun e w' => FtmRes w0 w b a n c nv ov (.error q) e w' := by
  have hq := readAt_error (by rw [G.len]; exact R.le) (unhide H)
  rw [G.len] at hq
  have hb := atom_bad (unhide H)
  have F := fun V (hV : Below w.heap.size w V) => read_no _ n c xs p q V (G.env.on (bt R.bel hV)) ((G.lies.on R.bel).on hV) G.small G.few R.le (hide (readA_none (unhide H)))
  have hb0 : Below w.heap.size w (w.alloc (.cells #[.string ⟨#[]⟩, .slice none 0 0] 46)) := (Below.refl _ _).alloc (Nat.le_refl _) _
  have A0 := AB.new w ⟨#[]⟩ (.slice none 0 0)
  have R0 := R.on hb0
  obtain ⟨r0, r1⟩ : _ ∧ _ := ⟨R0.c0, R0.c1⟩
  clear H
  go_enter Tryz.func128, Tryz.ntmps128
  go_wp2_with fail
  refine (F _ hb0).mono ?_
  rintro e w1 ⟨rfl, hb1⟩
  have hbx := below_new w1 (.cells #[.string ⟨#[]⟩, .slice none 0 0] 46)
  have R1 := (R0.on hb1).on hbx
  have A1 := (A0.on hb1).on hbx
  have hw1 := bt (bt hb0 hb1) hbx
  have hne : w.heap.size ≠ b := fun e => by have := R.lt; omega
  have R2 := R1.set (q := q) (i := (q : Int)) rfl (by omega)
  have ht2 := (Turns.of (b := b) hw1).tr (Turns.set b (w1.alloc (.cells #[.string ⟨#[]⟩, .slice none 0 0] 46)) (.int .i64 (q : Int)))
  have A2 : AB ((w1.alloc (.cells #[.string ⟨#[]⟩, .slice none 0 0] 46)).setCell ⟨b, 1, none⟩ (.int .i64 (q : Int))) w.heap.size ⟨#[]⟩ (.slice none 0 0) := ⟨by rw [Below.heap_setCell _ _ _ _ hne]; exact A1.at_⟩
  obtain ⟨s1, f1⟩ : _ ∧ _ := ⟨R1.c1, R1.f1⟩
  clear F R0 r0 r1 hb0 hb1 hbx A0 A1
  rcases hb with hb | ⟨hb, hn⟩
  · have d1 : decide ((p : Int) < (q : Int)) = true := decide_eq_true (by omega)
    have d2 : p < q := hb
    obtain ⟨y0, y1, g0, g1⟩ : _ ∧ _ ∧ _ ∧ _ := ⟨A2.c0, A2.c1, A2.f0, A2.f1⟩
    clear R1
    go_wp2_with fail
    have hlo : w0.heap.size ≤ w.heap.size := R.bel.size
    refine bodyPost_ret (v := .tuple #[zeroAt, .bool false]) (by simp [results, Tryz.results128, go_sem, y0, y1]) rfl ?_
    exact ⟨rfl, (R2.new hlo hne _).new hlo hne _, (ht2.new (Nat.le_refl _) _).new (Nat.le_refl _) _⟩
  · subst hb
    have d2 : ¬ q < q := by omega
    have hlo : w0.heap.size ≤ w.heap.size := R.bel.size
    clear R1 R hw1
    go_wp2_with fail
    generalize (w1.alloc (.cells #[.string ⟨#[]⟩, .slice none 0 0] 46)).setCell ⟨b, 1, none⟩ (.int .i64 (q : Int)) = W2 at R2 ht2 A2 ⊢
    refine (fisName_any G false W2 R2 (hide hn)).mono ?_
    rintro e w3 ⟨rfl, hb3⟩
    have A3 := A2.on hb3
    have R3 := R2.on hb3
    have ht3 := ht2.go hb3
    obtain ⟨y0, y1, g0, g1⟩ : _ ∧ _ ∧ _ ∧ _ := ⟨A3.c0, A3.c1, A3.f0, A3.f1⟩
    clear R2 ht2 A2 s1 f1
    go_wp2_with fail
    refine bodyPost_ret (v := .tuple #[zeroAt, .bool false]) (by simp [results, Tryz.results128, go_sem, y0, y1]) rfl ?_
    exact ⟨rfl, (R3.new hlo hne _).new hlo hne _, (ht3.new (Nat.le_refl _) _).new (Nat.le_refl _) _⟩

set_option maxHeartbeats 4000000 in
set_option maxRecDepth 100000 in
theorem fatom_few_any {w0 : World} {a : Option Addr} {n c : Nat} {xs : List Tm} (G : Sg w0 a n c xs) {b p : Nat} {nv ov : Value} (x : At × Nat) (w : World) (R : Fdr w0 w b a n c p nv ov) (H : Hid (readAt ((xs.map ktm).drop p) p = .ok x)) (h5 : x.1.2.length ≤ 5) :
    Calls Tryz.prog 128 #[.pointer (some ⟨b, 0, none⟩)] w fun e w' => FtmRes w0 w b a n c nv ov (.ok x) e w' := by
  have hq := (readAt_right (unhide H)).2.2.2
  rw [G.len] at hq
  have HC := hide (cutA_yes ((right_few (unhide H)).2 h5))
  have F := fun V (hV : Below w.heap.size w V) => read_ok _ n c xs p x V (G.env.on (bt R.bel hV)) ((G.lies.on R.bel).on hV) G.small G.few R.le (hide (readA_few (unhide H) h5))
  have hb0 : Below w.heap.size w (w.alloc (.cells #[.string ⟨#[]⟩, .slice none 0 0] 46)) := (Below.refl _ _).alloc (Nat.le_refl _) _
  have A0 := AB.new w ⟨#[]⟩ (.slice none 0 0)
  have R0 := R.on hb0
  obtain ⟨r0, r1⟩ : _ ∧ _ := ⟨R0.c0, R0.c1⟩
  clear H h5
  go_enter Tryz.func128, Tryz.ntmps128
  go_wp2_with fail
  refine (F _ hb0).mono ?_
  rintro e w1 ⟨⟨s, ao, m, mc, rfl, hs, ho⟩, hb1⟩
  have hbx := below_new w1 (.cells #[.string s, .slice ao m mc] 46)
  have R1 := (R0.on hb1).on hbx
  have A1 := (A0.on hb1).on hbx
  have Ax := AB.new w1 s (.slice ao m mc)
  have hw1 := bt (bt hb0 hb1) hbx
  have hblt := R.lt
  have hne : w.heap.size ≠ b := fun e => by omega
  have hsz0 : (w.alloc (.cells #[.string ⟨#[]⟩, .slice none 0 0] 46)).heap.size = w.heap.size + 1 := by simp
  have hob : ∀ g, (Value.slice ao m mc).ownBlock = some g → w.heap.size + 1 ≤ g := fun g hg => by have := (ho.lt g hg).1; omega
  have ho1 := own_off (own_on ho hbx) (a := ⟨b, 1, none⟩) (fun g hg => by have := hob g hg; simp only; omega) (.int .i64 (x.2 : Int))
  have ho2 := own_mono (own_off (own_off ho1 (a := ⟨w.heap.size, 0, none⟩) (fun g hg => by have := hob g hg; simp only; omega) (.string s)) (a := ⟨w.heap.size, 1, none⟩) (fun g hg => by have := hob g hg; simp only; omega) (.slice ao m mc)) (B' := w.heap.size) (by omega)
  have hbs : w1.heap.size ≠ b := fun e => by have := hb0.size; have := hb1.size; omega
  have hx1 : w1.heap.size ≠ w.heap.size := fun e => by have := hb1.size; omega
  have R2 := R1.set (q := x.2) (i := (x.2 : Int)) rfl (by omega)
  have ht2 := (Turns.of (b := b) hw1).tr (Turns.set b (w1.alloc (.cells #[.string s, .slice ao m mc] 46)) (.int .i64 (x.2 : Int)))
  have A2 : AB ((w1.alloc (.cells #[.string s, .slice ao m mc] 46)).setCell ⟨b, 1, none⟩ (.int .i64 (x.2 : Int))) w.heap.size ⟨#[]⟩ (.slice none 0 0) := ⟨by rw [Below.heap_setCell _ _ _ _ hne]; exact A1.at_⟩
  have A3 : AB ((w1.alloc (.cells #[.string s, .slice ao m mc] 46)).setCell ⟨b, 1, none⟩ (.int .i64 (x.2 : Int))) w1.heap.size s (.slice ao m mc) := ⟨by rw [Below.heap_setCell _ _ _ _ hbs]; exact Ax.at_⟩
  have A4 := (A2.set0 s).set1 (.slice ao m mc)
  obtain ⟨s1, f1⟩ : _ ∧ _ := ⟨R1.c1, R1.f1⟩
  obtain ⟨y0, y1, g0, g1⟩ : _ ∧ _ ∧ _ ∧ _ := ⟨A2.c0, A2.c1, A2.f0, A2.f1⟩
  obtain ⟨z0, z1⟩ : _ ∧ _ := ⟨A3.c0, A3.c1⟩
  obtain ⟨t0, t1⟩ : _ ∧ _ := ⟨A4.c0, A4.c1⟩
  have hlo : w0.heap.size ≤ w.heap.size := R.bel.size
  clear F R0 r0 r1 hb0 hb1 hbx A0 A1 Ax ho ho1 A2 A3 A4 hob R R1
  go_wp2_with fail
  refine bodyPost_ret (v := .tuple #[.agg #[.string s, .slice ao m mc], .bool true]) (by simp [results, Tryz.results128, go_sem, t0, t1]) rfl ?_
  exact ⟨⟨s, ao, m, mc, rfl, by rw [unhide HC]; exact hs, by rw [unhide HC]; exact ho2⟩, (R2.new hlo hne _).new hlo hne _, (ht2.new (Nat.le_refl _) _).new (Nat.le_refl _) _⟩
set_option maxHeartbeats 4000000 in
set_option maxRecDepth 100000 in
theorem fatom_many_any {w0 : World} {a : Option Addr} {n c : Nat} {xs : List Tm} (G : Sg w0 a n c xs) {b p : Nat} {nv ov : Value} (x : At × Nat) (w : World) (R : Fdr w0 w b a n c p nv ov) (H : Hid (readAt ((xs.map ktm).drop p) p = .ok x)) (h5 : ¬ x.1.2.length ≤ 5) :
    Calls Tryz.prog 128 #[.pointer (some ⟨b, 0, none⟩)] w fun e w' => FtmRes w0 w b a n c nv ov (.ok x) e w' := by
  have hfew := G.few
  have hq := (readAt_right (unhide H)).2.2.2
  rw [G.len] at hq
  obtain ⟨hp2, hcl, hbefore⟩ := readAt_paren (unhide H) (fun e => by rw [e] at h5; exact h5 (by simp))
  have HN := hide (nameK_of_ok (unhide H))
  have HC := hide (cutA_no (fun h => h5 ((right_few (unhide H)).1 h)))
  have HCL := hide hcl
  have HBF := hide hbefore
  have F := fun V (hV : Below w.heap.size w V) => read_no _ n c xs p p V (G.env.on (bt R.bel hV)) ((G.lies.on R.bel).on hV) G.small G.few R.le (hide (readA_many (unhide H) h5))
  have hb0 : Below w.heap.size w (w.alloc (.cells #[.string ⟨#[]⟩, .slice none 0 0] 46)) := (Below.refl _ _).alloc (Nat.le_refl _) _
  have A0 := AB.new w ⟨#[]⟩ (.slice none 0 0)
  have R0 := R.on hb0
  obtain ⟨r0, r1⟩ : _ ∧ _ := ⟨R0.c0, R0.c1⟩
  clear H h5 hcl hbefore
  go_enter Tryz.func128, Tryz.ntmps128
  go_wp2_with fail
  refine (F _ hb0).mono ?_
  rintro e w1 ⟨rfl, hb1⟩
  have hbx := below_new w1 (.cells #[.string ⟨#[]⟩, .slice none 0 0] 46)
  have R1 := (R0.on hb1).on hbx
  have A1 := (A0.on hb1).on hbx
  have hw1 := bt (bt hb0 hb1) hbx
  have hne : w.heap.size ≠ b := fun e => by have := R.lt; omega
  have R2 := R1.set (q := p) (i := (p : Int)) rfl (by omega)
  have ht2 := (Turns.of (b := b) hw1).tr (Turns.set b (w1.alloc (.cells #[.string ⟨#[]⟩, .slice none 0 0] 46)) (.int .i64 (p : Int)))
  have A2 : AB ((w1.alloc (.cells #[.string ⟨#[]⟩, .slice none 0 0] 46)).setCell ⟨b, 1, none⟩ (.int .i64 (p : Int))) w.heap.size ⟨#[]⟩ (.slice none 0 0) := ⟨by rw [Below.heap_setCell _ _ _ _ hne]; exact A1.at_⟩
  obtain ⟨s1, f1⟩ : _ ∧ _ := ⟨R1.c1, R1.f1⟩
  have d2 : ¬ p < p := by omega
  have hlo : w0.heap.size ≤ w.heap.size := R.bel.size
  clear F R0 r0 r1 hb0 hb1 hbx A0 A1 R1 R hw1
  go_wp2_with fail
  generalize (w1.alloc (.cells #[.string ⟨#[]⟩, .slice none 0 0] 46)).setCell ⟨b, 1, none⟩ (.int .i64 (p : Int)) = W2 at R2 ht2 A2 ⊢
  refine (fisName_any G true W2 R2 HN).mono ?_
  rintro e w3 ⟨rfl, hb3⟩
  have A3 := A2.on hb3
  have R3 := R2.on hb3
  have ht3 := ht2.go hb3
  clear R2 ht2 A2 s1 f1
  go_wp2_with fail
  go_loopw [] (fun wr => ∃ q : Nat, p ≤ q ∧ q ≤ x.2 - 1 ∧ Fdr w0 wr b a n c q nv ov ∧ Turns b w wr ∧ AB wr w.heap.size ⟨#[]⟩ (.slice none 0 0)) (fun wr => n - placeOf b wr)
  case atStart => exact ⟨p, Nat.le_refl _, by omega, R3, ht3, A3⟩
  case round =>
    obtain ⟨q, hpq, hqx, R4, ht4, A4⟩ := hrel
    have hqn : q < n := by omega
    have dl : decide ((q : Int) < (n : Int)) = true := decide_eq_true (by omega)
    obtain ⟨r0, r1⟩ : _ ∧ _ := ⟨R4.c0, R4.c1⟩
    clear R3 ht3 A3
    go_wp2_with fail
    go_quiet (fail)
    have hb4 := below_drewN (Below.refl wr.heap.size wr) nq
    generalize wr.drewN nq = w4 at hb4 ⊢
    have R5 := R4.on hb4
    have A5 := A4.on hb4
    have ht5 := ht4.go hb4
    have hpl := R4.place
    clear r0 r1 R4 A4 ht4
    by_cases hend : q = x.2 - 1
    · have HH : Hid ((xs.map ktm)[q]? = some (5, (⟨#[41]⟩ : ByteArray).data.toList)) := hide (by rw [hend]; exact unhide HCL)
      have hqe : q + 1 = x.2 := by omega
      clear HCL HBF hend
      go_wp2_with fail
      refine (ftakes_yes G 5 ⟨#[41]⟩ w4 R5 HH).mono ?_
      rintro e w5 ⟨rfl, R6, ht6⟩
      have A6 := A5.turn ht6 hne
      have ht7 := ht5.tr ht6
      obtain ⟨y0, y1, g0, g1⟩ : _ ∧ _ ∧ _ ∧ _ := ⟨A6.c0, A6.c1, A6.f0, A6.f1⟩
      rw [hqe] at R6
      clear R5 A5 ht5 ht6
      go_wp2_with fail
      refine bodyPost_ret (v := .tuple #[zeroAt, .bool true]) (by simp [results, Tryz.results128, go_sem, y0, y1]) rfl ?_
      exact ⟨⟨⟨#[]⟩, none, 0, 0, rfl, by rw [unhide HC]; rfl, by rw [unhide HC]; exact World.ownsRow_nil _ _ _ _⟩, (R6.new hlo hne _).new hlo hne _, (ht7.new (Nat.le_refl _) _).new (Nat.le_refl _) _⟩
    · have HH : Hid ((xs.map ktm)[q]? ≠ some (5, (⟨#[41]⟩ : ByteArray).data.toList)) := hide (unhide HBF q hpq (by omega))
      go_wp2_with fail
      refine (ftakes_no G 5 ⟨#[41]⟩ w4 R5 HH).mono ?_
      rintro e w5 ⟨rfl, hb5⟩
      have R6 := R5.on hb5
      have A6 := A5.on hb5
      have ht6 := ht5.go hb5
      obtain ⟨r1, f1⟩ : _ ∧ _ := ⟨R6.c1, R6.f1⟩
      have R7 := R6.set (q := q + 1) (i := (q : Int) + 1) (by omega) (by omega)
      have ht7 := ht6.tr (Turns.set b w5 (.int .i64 ((q : Int) + 1)))
      have A7 : AB (w5.setCell ⟨b, 1, none⟩ (.int .i64 ((q : Int) + 1))) w.heap.size ⟨#[]⟩ (.slice none 0 0) := ⟨by rw [Below.heap_setCell _ _ _ _ hne]; exact A6.at_⟩
      have hpl7 := R7.place
      clear R5 A5 ht5 HH R6 A6 ht6
      go_wp2_with fail
      go_roundw
      case rel => exact ⟨q + 1, by omega, by omega, R7, ht7, A7⟩
      case measure => rw [hpl, hpl7]; omega
theorem fatom_any {w0 : World} {a : Option Addr} {n c : Nat} {xs : List Tm} (G : Sg w0 a n c xs) {b p : Nat} {nv ov : Value} (r : Except Nat (At × Nat)) (w : World) (R : Fdr w0 w b a n c p nv ov) (H : Hid (readAt ((xs.map ktm).drop p) p = r)) :
    Calls Tryz.prog 128 #[.pointer (some ⟨b, 0, none⟩)] w fun e w' => FtmRes w0 w b a n c nv ov r e w' := by
  cases r with
  | error q => exact fatom_bad_any G q w R H
  | ok x =>
    by_cases h5 : x.1.2.length ≤ 5
    · exact fatom_few_any G x w R H h5
    · exact fatom_many_any G x w R H h5
end Go.Proofs.YtcjnhhbcleljmaaGreatDoor.Sb
namespace Go.Proofs.YtcjnhhbcleljmaaGreatDoor.Sb
open Go.RowKit
open V

theorem own_top {w : World} {B T L cp : Nat} {oq : Option Addr} {ts : List Qq} {t : Qq} (h : w.ownsRow B T 2 (.slice oq L cp) L (flatQ (ts ++ [t]))) (hL : L = ts.length + 1) : ∃ g, oq = some ⟨g, 0, none⟩ ∧ B ≤ g ∧ g < w.heap.size ∧ w.cell? ⟨g, (L - 1) * 2, none⟩ = some (.int .i64 t.1) ∧ w.cell? ⟨g, (L - 1) * 2 + 1, none⟩ = some (.int .i64 t.2) ∧ (∀ i, w.frozen? ⟨g, i, none⟩ = false) ∧ L ≤ cp := by
  rcases h.2 with ⟨hv, h0⟩ | ⟨g, cap, cur, hv, hB, hg, hc, _, hcs, ht⟩
  · omega
  · simp only [Value.slice.injEq] at hv
    obtain ⟨rfl, _, rfl⟩ := hv
    have key : ∀ j (u : Value), j < 2 → (flatQ1 t)[j]? = some u → w.cell? ⟨g, (L - 1) * 2 + j, none⟩ = some u := by
      intro j u hj hu
      have := flatQ_get (ts ++ [t]) ts.length t (by simp) j hj
      rw [hu, ← ht, List.getElem?_take_of_lt (by omega), Array.getElem?_toList] at this
      rw [Lib.cell_of_heap hg, show L - 1 = ts.length by omega]
      exact this
    exact ⟨g, rfl, hB, (Array.getElem?_eq_some_iff.1 hg).1, key 0 _ (by omega) rfl, key 1 _ (by omega) rfl, fun i => Lib.frozen_of_heap hg i, hc⟩
theorem own_setTop {w : World} {B T L cp g : Nat} {ts : List Qq} {t u : Qq} (h : w.ownsRow B T 2 (.slice (some ⟨g, 0, none⟩) L cp) L (flatQ (ts ++ [t]))) (hL : L = ts.length + 1) :
    ((w.setCell ⟨g, (L - 1) * 2, none⟩ (.int .i64 u.1)).setCell ⟨g, (L - 1) * 2 + 1, none⟩ (.int .i64 u.2)).ownsRow B T 2 (.slice (some ⟨g, 0, none⟩) L cp) L (flatQ (ts ++ [u])) := by
  have hl : (flatQ (ts ++ [u])).length = L * 2 := by rw [flatQ_len, List.length_append, List.length_singleton, hL]
  rcases h.2 with ⟨hv, h0⟩ | ⟨g', cap, cur, hv, hB, hg, hc, hm, hcs, ht⟩
  · omega
  · simp only [Value.slice.injEq, Option.some.injEq, Addr.mk.injEq] at hv
    obtain ⟨⟨rfl, _⟩, _, rfl⟩ := hv
    have h1 := Lib.heap_setCell_same (i := (L - 1) * 2) (v := .int .i64 u.1) hg
    have h2 := Lib.heap_setCell_same (i := (L - 1) * 2 + 1) (v := .int .i64 u.2) h1
    refine ⟨hl, Or.inr ⟨g, cp, _, rfl, hB, h2, hc, hm, by simp [hcs], ?_⟩⟩
    have hcl : cur.toList.length = cp * 2 := by simpa using hcs
    have ht2 : cur.toList.take (L * 2) = flatQ ts ++ flatQ1 t := by rw [ht, flatQ_app, flatQ_one]
    have hpre : cur.toList.take (ts.length * 2) = flatQ ts := by
      have hfl : (flatQ ts).take (ts.length * 2) = flatQ ts := List.take_of_length_le (by rw [flatQ_len]; omega)
      have := congrArg (List.take (ts.length * 2)) ht2
      rw [List.take_take, show min (ts.length * 2) (L * 2) = ts.length * 2 by omega, List.take_append_of_le_length (by rw [flatQ_len]; omega), hfl] at this
      exact this
    rw [flatQ_app, flatQ_one]
    refine List.ext_getElem? (fun i => ?_)
    simp only [Array.toList_setIfInBounds, List.getElem?_take]
    by_cases hi : i < L * 2
    · rw [if_pos hi]
      rw [List.getElem?_set, List.getElem?_set]
      by_cases e1 : (L - 1) * 2 + 1 = i
      · rw [if_pos e1]
        rw [if_pos (by simp only [List.length_set]; omega)]
        rw [List.getElem?_append_right (by rw [flatQ_len]; omega), flatQ_len, show i - ts.length * 2 = 1 by omega]
        rfl
      · rw [if_neg e1]
        by_cases e2 : (L - 1) * 2 = i
        · rw [if_pos e2, if_pos (by omega)]
          rw [List.getElem?_append_right (by rw [flatQ_len]; omega), flatQ_len, show i - ts.length * 2 = 0 by omega]
          rfl
        · rw [if_neg e2, List.getElem?_append_left (by rw [flatQ_len]; omega), ← hpre, List.getElem?_take_of_lt (by omega)]
    · rw [if_neg hi, List.getElem?_eq_none (by rw [List.length_append, flatQ_len]; simp; omega)]
section
variable {w : World} {b B : Nat} {nv : Value} {zs : List Nz} {st : List Opn} {t u : Opn} {L cp g : Nat}
theorem Frm.setTop (F : Frm w B nv zs (.slice (some ⟨g, 0, none⟩) L cp) (t :: st)) (hL : L = st.length + 1) :
    Frm ((w.setCell ⟨g, (L - 1) * 2, none⟩ (.int .i64 u.1)).setCell ⟨g, (L - 1) * 2 + 1, none⟩ (.int .i64 u.2)) B nv zs (.slice (some ⟨g, 0, none⟩) L cp) (u :: st) := by
  have ho := F.o
  rw [List.reverse_cons, List.length_cons, ← hL] at ho
  have h2 := own_setTop (u := u) ho (by rw [List.length_reverse]; exact hL)
  have hne : ∀ {x : Value}, Apart x (.slice (some ⟨g, 0, none⟩) L cp) → ∀ m, x.ownBlock = some m → m ≠ g := fun hx m hm e => hx m hm (by rw [e]; rfl)
  refine ⟨⟨own_off (own_off F.n.row (a := ⟨g, (L - 1) * 2, none⟩) (hne F.no) _) (a := ⟨g, (L - 1) * 2 + 1, none⟩) (hne F.no) _, fun z hz => ⟨own_off (own_off (F.n.all z hz).t (a := ⟨g, (L - 1) * 2, none⟩) (hne (F.zo z hz)) _) (a := ⟨g, (L - 1) * 2 + 1, none⟩) (hne (F.zo z hz)) _, (F.n.all z hz).ta⟩⟩, ?_, F.no, F.zo⟩
  rw [List.reverse_cons, List.length_cons, ← hL]
  exact h2
theorem Frm.pop (F : Frm w B nv zs (.slice (some ⟨g, 0, none⟩) L cp) (t :: st)) (hL : L = st.length + 1) : Frm w B nv zs (.slice (some ⟨g, 0, none⟩) (L - 1) cp) st := by
  have ho := F.o
  rw [List.reverse_cons, List.length_cons, ← hL] at ho
  have h2 := own_cut ho (show L - 1 ≤ L by omega)
  refine ⟨F.n, ?_, fun k h1 h3 => F.no k h1 h3, fun z hz k h1 h3 => F.zo z hz k h1 h3⟩
  have e : (flatQ (st.reverse ++ [t])).take ((L - 1) * 2) = flatQ st.reverse := by
    rw [flatQ_app, List.take_append_of_le_length (by rw [flatQ_len, List.length_reverse]; omega), List.take_of_length_le (by rw [flatQ_len, List.length_reverse]; omega)]
  rw [e] at h2
  have e2 : L - 1 = st.length := by omega
  rw [e2] at h2 ⊢
  exact h2
theorem Fdr.topSet {w0 : World} {a : Option Addr} {n c p : Nat} {ov : Value} (R : Fdr w0 w b a n c p nv ov) (hg : b < g) (i j : Nat) (x y : Value) : Fdr w0 ((w.setCell ⟨g, i, none⟩ x).setCell ⟨g, j, none⟩ y) b a n c p nv ov :=
  (R.new (by have := R.lo; omega) (by omega) x).new (by have := R.lo; omega) (by omega) y
end
/-- How many are open. -/
def openLen (b : Nat) (w : World) : Nat := match w.cell? ⟨b, 3, none⟩ with
  | some (.slice _ n _) => n
  | _ => 0
theorem Fdr.olen {w0 w : World} {b : Nat} {a : Option Addr} {n c p : Nat} {nv : Value} {q : Option Addr} {m k : Nat} (R : Fdr w0 w b a n c p nv (.slice q m k)) : openLen b w = m := by
  unfold openLen; rw [R.c3]
/-- What add leaves. -/
theorem add_any {w0 : World} {a : Option Addr} {n c : Nat} {b B p : Nat} {nv ov : Value} {zs : List Nz} {st : List Opn} (z : Nz) (wr : World) (w : World) (R : Fdr w0 w b a n c p nv ov) (F : Frm w B nv zs ov st) (hn : ∀ m, nv.ownBlock = some m → m < wr.heap.size) (ho : ∀ m, ov.ownBlock = some m → m < wr.heap.size) (hB : B ≤ wr.heap.size) (hbB : b < B) (hBw : B ≤ w.heap.size) (u : Value) (hy : z.Own w wr.heap.size u) :
    Calls Tryz.prog 129 #[.pointer (some ⟨b, 0, none⟩), aggN z] w fun e w' => e = .returned (.tuple #[]) ∧ ∃ v', Fdr w0 w' b a n c p v' ov ∧ Frm w' B v' (addZ zs z) ov st ∧ Kp b B w w' := by
  unfold addZ
  by_cases h : zs.length ≤ 40
  · rw [if_pos h]
    refine (add_one z wr w R F hn ho hB hbB hBw u hy h).mono ?_
    rintro e w' ⟨rfl, v', h1, h2, h4⟩
    exact ⟨rfl, v', h1, h2, h4⟩
  · rw [if_neg h]
    refine (add_full z w R F h).mono ?_
    rintro e w' ⟨rfl, hb⟩
    exact ⟨rfl, nv, R.on hb, F.on hb, (Kp.refl hbB hBw).on hb⟩
/-- A node that is added, held against the page's. -/
theorem addZ_cut {zs : List Nz} {ns : List Np} (h : zs.map Nz.pl = cutL ns) {z : Nz} {n : Np} (hz : ns.length ≤ 40 → z.pl = cutNd n) : (addZ zs z).map Nz.pl = cutL (ns ++ [n]) := by
  have hl : zs.length = min ns.length 41 := by rw [← cutL_len, ← h, List.length_map]
  unfold addZ
  by_cases h4 : ns.length ≤ 40
  · rw [if_pos (by omega), List.map_append, h, cutL_add n h4, ← hz h4]; rfl
  · rw [if_neg (by omega), h, cutL_full n h4]
end Go.Proofs.YtcjnhhbcleljmaaGreatDoor.Sb
namespace Go.Proofs.YtcjnhhbcleljmaaGreatDoor.Sb
open Go.RowKit
open V

/-- What passClosing answers. -/
def CloseE (w0 w : World) (b B : Nat) (a : Option Addr) (n c : Nat) (r : Except Nat (List Opn × List Np × Nat)) (e : Ending) (w' : World) : Prop := match r with
  | .error q => e = .returned (.bool false) ∧ (∃ nv ov, Fdr w0 w' b a n c q nv ov) ∧ Kp b B w w'
  | .ok x => e = .returned (.bool true) ∧ (∃ nv ov zs, Fdr w0 w' b a n c x.2.2 nv ov ∧ Frm w' B nv zs ov (x.1.map cutO) ∧ zs.map Nz.pl = cutL x.2.1) ∧ Kp b B w w'
/-- What a round of passClosing starts with: the last open one in a box of its own. -/
structure Cl0 (w0 w W : World) (b B : Nat) (a : Option Addr) (n c p : Nat) (nq : Option Addr) (ncp : Nat) (zs : List Nz) (g L oc : Nat) (k am : Int) (rp : List Opn) (s : Nat) : Prop where
  r : Fdr w0 W b a n c p (.slice nq zs.length ncp) (.slice (some ⟨g, 0, none⟩) L oc)
  f : Frm W B (.slice nq zs.length ncp) zs (.slice (some ⟨g, 0, none⟩) L oc) ((k, am) :: rp)
  bel : Kp b B w W
  gb : b < g
  l : L = rp.length + 1
  lc : L ≤ oc
  x0 : W.cell? ⟨s, 0, none⟩ = some (.int .i64 k)
  x1 : W.cell? ⟨s, 1, none⟩ = some (.int .i64 am)
theorem turn_cell {b : Nat} {w w' : World} (ht : Turns b w w') {s i : Nat} {v : Value} (h : w.cell? ⟨s, i, none⟩ = some v) (hs : s ≠ b) : w'.cell? ⟨s, i, none⟩ = some v := by
  have hl := cell_lt h
  have e := ht.block s hl (fun e => hs (Option.some.inj e))
  unfold World.cell? at h ⊢
  simp only at h ⊢
  rw [e]
  exact h
set_option maxHeartbeats 8000000 in
set_option maxRecDepth 100000 in
theorem passClosing_any {w0 : World} {a : Option Addr} {n c : Nat} {xs : List Tm} (G : Sg w0 a n c xs) (hw : Wd w0) {b B p : Nat} {nv ov : Value} {zs : List Nz} (st : List Opn) (ns : List Np) (r : Except Nat (List Opn × List Np × Nat)) (w : World) (R : Fdr w0 w b a n c p nv ov) (F : Frm w B nv zs ov (st.map cutO)) (hbB : b < B) (hBw : B ≤ w.heap.size) (HZ : Hid (zs.map Nz.pl = cutL ns)) (h1 : 1 ≤ ns.length) (HP : Hid (PlaceN st ns)) (hst : st.length ≤ 20000) (H : Hid (closeF (xs.map ktm) st ns p = r)) :
    Calls Tryz.prog 130 #[.pointer (some ⟨b, 0, none⟩)] w fun e w' => CloseE w0 w b B a n c r e w' := by
  have hlen := G.len
  have hfew := G.few
  go_enter Tryz.func130, Tryz.ntmps130
  go_wp2_with fail
  go_loopw [] (fun wr => ∃ (st : List Opn) (ns : List Np) (p : Nat) (zs : List Nz) (nv ov : Value), Hid (closeF (xs.map ktm) st ns p = r) ∧ Hid (zs.map Nz.pl = cutL ns) ∧ 1 ≤ ns.length ∧ Hid (PlaceN st ns) ∧ st.length ≤ 20000 ∧ Fdr w0 wr b a n c p nv ov ∧ Frm wr B nv zs ov (st.map cutO) ∧ Kp b B w wr) (fun wr => openLen b wr)
  case atStart => exact ⟨st, ns, p, zs, nv, ov, H, HZ, h1, HP, hst, R, F, Kp.refl hbB hBw⟩
  case round =>
    obtain ⟨st, ns, p, zs, nv, ov, HC, HZ, h1, HP, hst, R1, F1, hbw⟩ := hrel
    clear H
    obtain ⟨nq, ncp, rfl⟩ : ∃ nq ncp, nv = .slice nq zs.length ncp := own_slice F1.n.row
    have hzl : zs.length = min ns.length 41 := by rw [← cutL_len, ← unhide HZ, List.length_map]
    have hz1 : 1 ≤ zs.length := by omega
    have hz41 : zs.length ≤ 41 := by omega
    have HZL := hide hzl
    clear hzl R F
    cases st with
    | nil =>
      obtain ⟨oq, oc, rfl⟩ : ∃ oq oc, ov = .slice oq 0 oc := own_slice F1.o
      have HR := hide ((unhide HC).symm)
      obtain ⟨r2, r3⟩ : _ ∧ _ := ⟨R1.c2, R1.c3⟩
      clear HC HP
      go_wp2_with fail
      go_ret
      rw [unhide HR, closeF_nil]
      exact ⟨rfl, ⟨_, _, _, R1, F1, unhide HZ⟩, hbw⟩
    | cons t st' =>
      obtain ⟨k, ka⟩ := t
      have hka := unhide HP (k, ka) (by simp)
      simp only at hka
      have hst' : st'.length ≤ 20000 := by simp at hst; omega
      obtain ⟨am, ham⟩ : ∃ am, min ka 40 = am := ⟨_, rfl⟩
      obtain ⟨rp, hrp⟩ : ∃ rp, st'.map cutO = rp := ⟨_, rfl⟩
      obtain ⟨L, hL⟩ : ∃ L, L = rp.length + 1 := ⟨_, rfl⟩
      have F2 : Frm wr B (.slice nq zs.length ncp) zs ov ((k, am) :: rp) := by rw [← ham, ← hrp]; exact F1
      have ho2 := F2.o
      rw [List.length_cons, ← hL] at ho2
      obtain ⟨oq, oc, rfl⟩ : ∃ oq oc, ov = .slice oq L oc := own_slice ho2
      rw [List.reverse_cons] at ho2
      obtain ⟨g, rfl, hgB, hgl, x0, x1, _, hlc⟩ := own_top ho2 (by rw [List.length_reverse]; exact hL)
      have hLr : rp.length ≤ 20000 := by rw [← hrp, List.length_map]; exact hst'
      have hol := R1.olen
      have C0 : Cl0 w0 w (wr.alloc (.cells #[.int .i64 k, .int .i64 am] 216)) b B a n c p nq ncp zs g L oc k am rp wr.heap.size := by
        have hbx := below_new wr (.cells #[.int .i64 k, .int .i64 am] 216)
        have hnw := heap_alloc_new wr (.cells #[.int .i64 k, .int .i64 am] 216)
        exact ⟨R1.on hbx, F2.on hbx, hbw.on hbx, by omega, hL, hlc, by rw [Lib.cell_of_heap hnw]; rfl, by rw [Lib.cell_of_heap hnw]; rfl⟩
      obtain ⟨r2, r3⟩ : _ ∧ _ := ⟨R1.c2, R1.c3⟩
      have HH := hide (And.intro hka (And.intro ham hrp))
      have l1 : 1 ≤ L := by omega
      have l2 : L ≤ 20001 := by omega
      have i0 : (0 : Int) ≤ (L : Int) - 1 := by omega
      have i1 : (L : Int) - 1 < (L : Int) := by omega
      have hix : ((L : Int) - 1).toNat = L - 1 := by omega
      have HNE : Hid (wr.heap.size ≠ b) := hide (by have := R1.lt; omega)
      clear hka ham hrp F1 F2 ho2 hgB hgl hL hst hst' hbw R1
      go_upto_region 5 with fail
      clear x0 x1 r2 r3
      generalize wr.alloc (.cells #[.int .i64 k, .int .i64 am] 216) = W at C0 ⊢
      obtain ⟨x0, x1⟩ : _ ∧ _ := ⟨C0.x0, C0.x1⟩
      by_cases hk0 : k = 0
      · subst hk0
        have dk0 : ((0 : Int) == 0) = true := rfl
        have hbx := below_new W (.cells #[.int .i64 3, .int .i64 4, .int .i64 8] 3)
        have hnw := heap_alloc_new W (.cells #[.int .i64 3, .int .i64 4, .int .i64 8] 3)
        have RX := C0.r.on hbx
        have FX := C0.f.on hbx
        have hbX := C0.bel.on hbx
        have hcell : Hid (∀ (i : Nat) (k : Int), ([3, 4, 8] : List Int)[i]? = some k → (W.alloc (.cells #[.int .i64 3, .int .i64 4, .int .i64 8] 3)).cell? ⟨W.heap.size, i, none⟩ = some (.int .i64 k)) := hide (fun i k hk => by
          rw [Lib.cell_of_heap hnw]
          match i, hk with
          | 0, hk => cases hk; rfl
          | 1, hk => cases hk; rfl
          | 2, hk => cases hk; rfl
          | i + 3, hk => cases hk)
        obtain ⟨o, hrw⟩ : ∃ o, wordR (xs.map ktm) p [3, 4, 8] = o := ⟨_, rfl⟩
        have HKT := hide ((kTwo_of (xs.map ktm) p).trans hrw)
        have FW := hide (word_any G W.heap.size 3 3 [3, 4, 8] o _ (hw.on RX.bel) RX rfl (Nat.le_refl _) (by decide) (hide (by decide)) hcell (hide hrw))
        have HL2 := hide C0.l
        clear hcell hrw hbx hnw C0
        go_wp2_with fail
        generalize W.alloc (.cells #[.int .i64 3, .int .i64 4, .int .i64 8] 3) = W2 at RX FX hbX FW ⊢
        refine (unhide FW).mono ?_
        rintro e w3 hE
        clear FW
        have hW : b ≤ W2.heap.size := Nat.le_of_lt RX.lt
        cases o with
        | some j =>
          obtain ⟨rfl, R3, ht3⟩ := hE
          have F3 := FX.turn ht3 hbB
          have hj0 : (j != 0) = true := by
            have h := (unhide HKT)
            unfold kTwo at h
            cases hp : (xs.map ktm)[p]? with
            | none => rw [hp] at h; cases h
            | some t =>
              rw [hp] at h
              have := (two_ne (twoT_kind h).1).2
              simpa using this
          have HR : Hid (r = .ok ((j, (ns.length : Int) - 1) :: st', ns, p + 1)) := hide ((unhide HC).symm.trans (closeF_word (unhide HKT)))
          have hb3 : Kp b B w w3 := hbX.turn ht3
          have ho3 := F3.o
          have hL := unhide HL2
          rw [List.length_cons, ← hL, List.reverse_cons] at ho3
          obtain ⟨g', hg', hgB, hgl, y0, y1, yf, _⟩ := own_top ho3 (by rw [List.length_reverse]; exact hL)
          cases hg'
          have f0 := yf ((L - 1) * 2)
          have f1 := yf ((L - 1) * 2 + 1)
          have F4 := F3.setTop (u := (j, (zs.length : Int) - 1)) hL
          have R4 := R3.topSet (g := g) (by omega) ((L - 1) * 2) ((L - 1) * 2 + 1) (.int .i64 j) (.int .i64 ((zs.length : Int) - 1))
          have hb4 : Kp b B w ((w3.setCell ⟨g, (L - 1) * 2, none⟩ (.int .i64 j)).setCell ⟨g, (L - 1) * 2 + 1, none⟩ (.int .i64 ((zs.length : Int) - 1))) := (hb3.set (p := ⟨g, (L - 1) * 2, none⟩) (Or.inr (by show B ≤ g; omega)) _).set (p := ⟨g, (L - 1) * 2 + 1, none⟩) (Or.inr (by show B ≤ g; omega)) _
          obtain ⟨r2, r3⟩ : _ ∧ _ := ⟨R3.c2, R3.c3⟩
          have HF : Hid (((j, (zs.length : Int) - 1) :: rp : List Opn) = ((j, (ns.length : Int) - 1) :: st').map cutO) := hide (by
            rw [List.map_cons, (unhide HH).2.2]
            have hzl := unhide HZL
            unfold cutO
            simp only
            rw [show ((zs.length : Int) - 1) = min ((ns.length : Int) - 1) 40 by omega])
          clear hL ho3 yf F3 hb3 R3 FX RX hbX HKT HC
          go_wp2_with fail
          go_ret
          rw [unhide HR]
          rw [unhide HF] at F4
          exact ⟨rfl, ⟨_, _, _, R4, F4, unhide HZ⟩, hb4⟩
        | none =>
          obtain ⟨rfl, R3, ht3⟩ := hE
          have F3 := FX.turn ht3 hbB
          have HR : Hid (r = .error p) := hide ((unhide HC).symm.trans (closeF_bad (unhide HKT)))
          have hb3 : Kp b B w w3 := hbX.turn ht3
          have ho3 := F3.o
          have hL := unhide HL2
          rw [List.length_cons, ← hL, List.reverse_cons] at ho3
          obtain ⟨g', hg', hgB, hgl, y0, y1, yf, _⟩ := own_top ho3 (by rw [List.length_reverse]; exact hL)
          cases hg'
          have f0 := yf ((L - 1) * 2)
          have f1 := yf ((L - 1) * 2 + 1)
          have R4 := R3.topSet (g := g) (by omega) ((L - 1) * 2) ((L - 1) * 2 + 1) (.int .i64 0) (.int .i64 ((zs.length : Int) - 1))
          have hb4 : Kp b B w ((w3.setCell ⟨g, (L - 1) * 2, none⟩ (.int .i64 0)).setCell ⟨g, (L - 1) * 2 + 1, none⟩ (.int .i64 ((zs.length : Int) - 1))) := (hb3.set (p := ⟨g, (L - 1) * 2, none⟩) (Or.inr (by show B ≤ g; omega)) _).set (p := ⟨g, (L - 1) * 2 + 1, none⟩) (Or.inr (by show B ≤ g; omega)) _
          obtain ⟨r2, r3⟩ : _ ∧ _ := ⟨R3.c2, R3.c3⟩
          clear hL ho3 yf F3 hb3 R3 FX RX hbX HKT HC
          go_wp2_with fail
          go_ret
          rw [unhide HR]
          exact ⟨rfl, ⟨_, _, R4⟩, hb4⟩
      · cases htk : twoK k with
        | true =>
          rcases twoK_iff.1 htk with rfl | rfl | rfl
          · clear htk hk0
            have dk0 : ((3 : Int) == 0) = false := rfl
            have dk3 : ((3 : Int) == 3) = true := rfl
            have dk4 : ((3 : Int) == 4) = false := rfl
            have dk8 : ((3 : Int) == 8) = false := rfl
            have HLL := hide C0.l
            have hst0 : Hid (st'.length ≤ 20000) := hide (by have h := congrArg List.length (unhide HH).2.2; rw [List.length_map] at h; omega)
            by_cases hp41 : (xs.map ktm)[p]? = some (5, [41])
            · have H41 : Hid ((xs.map ktm)[p]? = some (5, (⟨#[41]⟩ : ByteArray).data.toList)) := hide hp41
              have HC2 : Hid (closeF (xs.map ktm) st' (ns ++ [(3, noA, ka, (ns.length : Int) - 1)]) (p + 1) = r) := hide ((closeF_two (by decide) hp41).symm.trans (unhide HC))
              have FT := hide (ftakes_yes G 5 ⟨#[41]⟩ W C0.r H41)
              have hW : b ≤ W.heap.size := Nat.le_of_lt C0.r.lt
              have hs : wr.heap.size ≠ b := unhide HNE
              clear hp41 HC
              go_wp2_with fail
              refine (unhide FT).mono ?_
              rintro e WX ⟨rfl, RX, ht3⟩
              have FX := C0.f.turn ht3 hbB
              have hbX : Kp b B w WX := C0.bel.turn ht3
              have y0 := turn_cell ht3 C0.x0 hs
              have y1 := turn_cell ht3 C0.x1 hs
              clear x0 x1 FT H41 C0
              obtain ⟨r2, r3⟩ : _ ∧ _ := ⟨RX.c2, RX.c3⟩
              have hnB : ∀ m, (Value.slice nq zs.length ncp).ownBlock = some m → m < WX.heap.size := fun m hm => (FX.n.row.lt m hm).2
              have hoB : ∀ m, (Value.slice (some ⟨g, 0, none⟩) L oc).ownBlock = some m → m < WX.heap.size := fun m hm => (FX.o.lt m hm).2
              have FADD := hide (add_any (emptyN 3 am ((zs.length : Int) - 1)) WX WX RX FX hnB hoB hbX.at hbB hbX.at (.slice none 0 0) (emptyN_own _ _ _ _ _ _))
              have HZ2 : Hid ((addZ zs (emptyN 3 am ((zs.length : Int) - 1))).map Nz.pl = cutL (ns ++ [(3, noA, ka, (ns.length : Int) - 1)])) := hide (addZ_cut (unhide HZ) (fun h40 => by
                have hzl := unhide HZL
                have ha := (unhide HH).1
                have hb := (unhide HH).2.1
                show ((3 : Int), (([] : List UInt8), ([] : List Bb)), am, (zs.length : Int) - 1) = (3, cutA noA, ka, (ns.length : Int) - 1); rw [cutA_none, ← hb, show min ka 40 = ka by omega, show zs.length = ns.length by omega]; rfl))
              have HP2 : Hid (PlaceN st' (ns ++ [(3, noA, ka, (ns.length : Int) - 1)])) := hide ((unhide HP).tail.add _)
              have hn2 : 1 ≤ (ns ++ [(3, noA, ka, (ns.length : Int) - 1)] : List Np).length := by simp
              have hlb := hide (fun V (h : Kp b B WX V) => hbX.trans h)
              clear hnB hoB HZ
              generalize ns ++ [(3, noA, ka, (ns.length : Int) - 1)] = ns2 at HZ2 HP2 hn2 HC2
              generalize addZ zs (emptyN 3 am ((zs.length : Int) - 1)) = zs2 at FADD HZ2
              go_wp2_with fail
              refine (unhide FADD).mono ?_
              rintro e w5 ⟨rfl, nv5, R5, F5, hb5⟩
              have hb6 := unhide hlb w5 hb5
              have F6 := (Frm.pop F5 (unhide HLL)).turn (Turns.seti b 3 w5 (.slice (some ⟨g, 0, none⟩) (L - 1) oc)) hbB
              have R6 := R5.setO (.slice (some ⟨g, 0, none⟩) (L - 1) oc)
              have hb7 : Kp b B w (w5.setCell ⟨b, 3, none⟩ (.slice (some ⟨g, 0, none⟩) (L - 1) oc)) := hb6.set (p := ⟨b, 3, none⟩) (Or.inl rfl) _
              obtain ⟨t3, g3⟩ : _ ∧ _ := ⟨R5.c3, R5.f3⟩
              have hol6 := R6.olen
              have hs0 := unhide hst0
              have hL0 : (0 : Int) ≤ (L : Int) - 1 := by omega
              have hLc : (L : Int) - 1 ≤ (oc : Int) := by omega
              clear FADD RX FX hbX hlb hb5 hb6 F5 R5 r2 r3 y0 y1
              go_wp2_with fail
              rw [← (unhide HH).2.2] at F6
              go_roundw
              case rel => exact ⟨st', ns2, p + 1, zs2, nv5, _, HC2, HZ2, hn2, HP2, hs0, R6, F6, hb7⟩
              case measure => rw [hol, hol6]; omega
            · have H41 : Hid ((xs.map ktm)[p]? ≠ some (5, (⟨#[41]⟩ : ByteArray).data.toList)) := hide hp41
              have HR : Hid (r = .error p) := hide ((unhide HC).symm.trans (closeF_none (by decide) hp41))
              have FT := hide (ftakes_no G 5 ⟨#[41]⟩ W C0.r H41)
              have hW : b ≤ W.heap.size := Nat.le_of_lt C0.r.lt
              clear hp41 HC
              go_wp2_with fail
              refine (unhide FT).mono ?_
              rintro e w3 ⟨rfl, hb3⟩
              have R3 := C0.r.on hb3
              have hb4 : Kp b B w w3 := C0.bel.on hb3
              clear x0 x1 FT H41 C0
              go_wp2_with fail
              go_ret
              rw [unhide HR]
              exact ⟨rfl, ⟨_, _, R3⟩, hb4⟩
          · clear htk hk0
            have dk0 : ((4 : Int) == 0) = false := rfl
            have dk3 : ((4 : Int) == 3) = false := rfl
            have dk4 : ((4 : Int) == 4) = true := rfl
            have dk8 : ((4 : Int) == 8) = false := rfl
            have HLL := hide C0.l
            have hst0 : Hid (st'.length ≤ 20000) := hide (by have h := congrArg List.length (unhide HH).2.2; rw [List.length_map] at h; omega)
            by_cases hp41 : (xs.map ktm)[p]? = some (5, [41])
            · have H41 : Hid ((xs.map ktm)[p]? = some (5, (⟨#[41]⟩ : ByteArray).data.toList)) := hide hp41
              have HC2 : Hid (closeF (xs.map ktm) st' (ns ++ [(4, noA, ka, (ns.length : Int) - 1)]) (p + 1) = r) := hide ((closeF_two (by decide) hp41).symm.trans (unhide HC))
              have FT := hide (ftakes_yes G 5 ⟨#[41]⟩ W C0.r H41)
              have hW : b ≤ W.heap.size := Nat.le_of_lt C0.r.lt
              have hs : wr.heap.size ≠ b := unhide HNE
              clear hp41 HC
              go_wp2_with fail
              refine (unhide FT).mono ?_
              rintro e WX ⟨rfl, RX, ht3⟩
              have FX := C0.f.turn ht3 hbB
              have hbX : Kp b B w WX := C0.bel.turn ht3
              have y0 := turn_cell ht3 C0.x0 hs
              have y1 := turn_cell ht3 C0.x1 hs
              clear x0 x1 FT H41 C0
              obtain ⟨r2, r3⟩ : _ ∧ _ := ⟨RX.c2, RX.c3⟩
              have hnB : ∀ m, (Value.slice nq zs.length ncp).ownBlock = some m → m < WX.heap.size := fun m hm => (FX.n.row.lt m hm).2
              have hoB : ∀ m, (Value.slice (some ⟨g, 0, none⟩) L oc).ownBlock = some m → m < WX.heap.size := fun m hm => (FX.o.lt m hm).2
              have FADD := hide (add_any (emptyN 4 am ((zs.length : Int) - 1)) WX WX RX FX hnB hoB hbX.at hbB hbX.at (.slice none 0 0) (emptyN_own _ _ _ _ _ _))
              have HZ2 : Hid ((addZ zs (emptyN 4 am ((zs.length : Int) - 1))).map Nz.pl = cutL (ns ++ [(4, noA, ka, (ns.length : Int) - 1)])) := hide (addZ_cut (unhide HZ) (fun h40 => by
                have hzl := unhide HZL
                have ha := (unhide HH).1
                have hb := (unhide HH).2.1
                show ((4 : Int), (([] : List UInt8), ([] : List Bb)), am, (zs.length : Int) - 1) = (4, cutA noA, ka, (ns.length : Int) - 1); rw [cutA_none, ← hb, show min ka 40 = ka by omega, show zs.length = ns.length by omega]; rfl))
              have HP2 : Hid (PlaceN st' (ns ++ [(4, noA, ka, (ns.length : Int) - 1)])) := hide ((unhide HP).tail.add _)
              have hn2 : 1 ≤ (ns ++ [(4, noA, ka, (ns.length : Int) - 1)] : List Np).length := by simp
              have hlb := hide (fun V (h : Kp b B WX V) => hbX.trans h)
              clear hnB hoB HZ
              generalize ns ++ [(4, noA, ka, (ns.length : Int) - 1)] = ns2 at HZ2 HP2 hn2 HC2
              generalize addZ zs (emptyN 4 am ((zs.length : Int) - 1)) = zs2 at FADD HZ2
              go_wp2_with fail
              refine (unhide FADD).mono ?_
              rintro e w5 ⟨rfl, nv5, R5, F5, hb5⟩
              have hb6 := unhide hlb w5 hb5
              have F6 := (Frm.pop F5 (unhide HLL)).turn (Turns.seti b 3 w5 (.slice (some ⟨g, 0, none⟩) (L - 1) oc)) hbB
              have R6 := R5.setO (.slice (some ⟨g, 0, none⟩) (L - 1) oc)
              have hb7 : Kp b B w (w5.setCell ⟨b, 3, none⟩ (.slice (some ⟨g, 0, none⟩) (L - 1) oc)) := hb6.set (p := ⟨b, 3, none⟩) (Or.inl rfl) _
              obtain ⟨t3, g3⟩ : _ ∧ _ := ⟨R5.c3, R5.f3⟩
              have hol6 := R6.olen
              have hs0 := unhide hst0
              have hL0 : (0 : Int) ≤ (L : Int) - 1 := by omega
              have hLc : (L : Int) - 1 ≤ (oc : Int) := by omega
              clear FADD RX FX hbX hlb hb5 hb6 F5 R5 r2 r3 y0 y1
              go_wp2_with fail
              rw [← (unhide HH).2.2] at F6
              go_roundw
              case rel => exact ⟨st', ns2, p + 1, zs2, nv5, _, HC2, HZ2, hn2, HP2, hs0, R6, F6, hb7⟩
              case measure => rw [hol, hol6]; omega
            · have H41 : Hid ((xs.map ktm)[p]? ≠ some (5, (⟨#[41]⟩ : ByteArray).data.toList)) := hide hp41
              have HR : Hid (r = .error p) := hide ((unhide HC).symm.trans (closeF_none (by decide) hp41))
              have FT := hide (ftakes_no G 5 ⟨#[41]⟩ W C0.r H41)
              have hW : b ≤ W.heap.size := Nat.le_of_lt C0.r.lt
              clear hp41 HC
              go_wp2_with fail
              refine (unhide FT).mono ?_
              rintro e w3 ⟨rfl, hb3⟩
              have R3 := C0.r.on hb3
              have hb4 : Kp b B w w3 := C0.bel.on hb3
              clear x0 x1 FT H41 C0
              go_wp2_with fail
              go_ret
              rw [unhide HR]
              exact ⟨rfl, ⟨_, _, R3⟩, hb4⟩
          · clear htk hk0
            have dk0 : ((8 : Int) == 0) = false := rfl
            have dk3 : ((8 : Int) == 3) = false := rfl
            have dk4 : ((8 : Int) == 4) = false := rfl
            have dk8 : ((8 : Int) == 8) = true := rfl
            have HLL := hide C0.l
            have hst0 : Hid (st'.length ≤ 20000) := hide (by have h := congrArg List.length (unhide HH).2.2; rw [List.length_map] at h; omega)
            by_cases hp41 : (xs.map ktm)[p]? = some (5, [41])
            · have H41 : Hid ((xs.map ktm)[p]? = some (5, (⟨#[41]⟩ : ByteArray).data.toList)) := hide hp41
              have HC2 : Hid (closeF (xs.map ktm) st' (ns ++ [(8, noA, ka, (ns.length : Int) - 1)]) (p + 1) = r) := hide ((closeF_two (by decide) hp41).symm.trans (unhide HC))
              have FT := hide (ftakes_yes G 5 ⟨#[41]⟩ W C0.r H41)
              have hW : b ≤ W.heap.size := Nat.le_of_lt C0.r.lt
              have hs : wr.heap.size ≠ b := unhide HNE
              clear hp41 HC
              go_wp2_with fail
              refine (unhide FT).mono ?_
              rintro e WX ⟨rfl, RX, ht3⟩
              have FX := C0.f.turn ht3 hbB
              have hbX : Kp b B w WX := C0.bel.turn ht3
              have y0 := turn_cell ht3 C0.x0 hs
              have y1 := turn_cell ht3 C0.x1 hs
              clear x0 x1 FT H41 C0
              obtain ⟨r2, r3⟩ : _ ∧ _ := ⟨RX.c2, RX.c3⟩
              have hnB : ∀ m, (Value.slice nq zs.length ncp).ownBlock = some m → m < WX.heap.size := fun m hm => (FX.n.row.lt m hm).2
              have hoB : ∀ m, (Value.slice (some ⟨g, 0, none⟩) L oc).ownBlock = some m → m < WX.heap.size := fun m hm => (FX.o.lt m hm).2
              have FADD := hide (add_any (emptyN 8 am ((zs.length : Int) - 1)) WX WX RX FX hnB hoB hbX.at hbB hbX.at (.slice none 0 0) (emptyN_own _ _ _ _ _ _))
              have HZ2 : Hid ((addZ zs (emptyN 8 am ((zs.length : Int) - 1))).map Nz.pl = cutL (ns ++ [(8, noA, ka, (ns.length : Int) - 1)])) := hide (addZ_cut (unhide HZ) (fun h40 => by
                have hzl := unhide HZL
                have ha := (unhide HH).1
                have hb := (unhide HH).2.1
                show ((8 : Int), (([] : List UInt8), ([] : List Bb)), am, (zs.length : Int) - 1) = (8, cutA noA, ka, (ns.length : Int) - 1); rw [cutA_none, ← hb, show min ka 40 = ka by omega, show zs.length = ns.length by omega]; rfl))
              have HP2 : Hid (PlaceN st' (ns ++ [(8, noA, ka, (ns.length : Int) - 1)])) := hide ((unhide HP).tail.add _)
              have hn2 : 1 ≤ (ns ++ [(8, noA, ka, (ns.length : Int) - 1)] : List Np).length := by simp
              have hlb := hide (fun V (h : Kp b B WX V) => hbX.trans h)
              clear hnB hoB HZ
              generalize ns ++ [(8, noA, ka, (ns.length : Int) - 1)] = ns2 at HZ2 HP2 hn2 HC2
              generalize addZ zs (emptyN 8 am ((zs.length : Int) - 1)) = zs2 at FADD HZ2
              go_wp2_with fail
              refine (unhide FADD).mono ?_
              rintro e w5 ⟨rfl, nv5, R5, F5, hb5⟩
              have hb6 := unhide hlb w5 hb5
              have F6 := (Frm.pop F5 (unhide HLL)).turn (Turns.seti b 3 w5 (.slice (some ⟨g, 0, none⟩) (L - 1) oc)) hbB
              have R6 := R5.setO (.slice (some ⟨g, 0, none⟩) (L - 1) oc)
              have hb7 : Kp b B w (w5.setCell ⟨b, 3, none⟩ (.slice (some ⟨g, 0, none⟩) (L - 1) oc)) := hb6.set (p := ⟨b, 3, none⟩) (Or.inl rfl) _
              obtain ⟨t3, g3⟩ : _ ∧ _ := ⟨R5.c3, R5.f3⟩
              have hol6 := R6.olen
              have hs0 := unhide hst0
              have hL0 : (0 : Int) ≤ (L : Int) - 1 := by omega
              have hLc : (L : Int) - 1 ≤ (oc : Int) := by omega
              clear FADD RX FX hbX hlb hb5 hb6 F5 R5 r2 r3 y0 y1
              go_wp2_with fail
              rw [← (unhide HH).2.2] at F6
              go_roundw
              case rel => exact ⟨st', ns2, p + 1, zs2, nv5, _, HC2, HZ2, hn2, HP2, hs0, R6, F6, hb7⟩
              case measure => rw [hol, hol6]; omega
            · have H41 : Hid ((xs.map ktm)[p]? ≠ some (5, (⟨#[41]⟩ : ByteArray).data.toList)) := hide hp41
              have HR : Hid (r = .error p) := hide ((unhide HC).symm.trans (closeF_none (by decide) hp41))
              have FT := hide (ftakes_no G 5 ⟨#[41]⟩ W C0.r H41)
              have hW : b ≤ W.heap.size := Nat.le_of_lt C0.r.lt
              clear hp41 HC
              go_wp2_with fail
              refine (unhide FT).mono ?_
              rintro e w3 ⟨rfl, hb3⟩
              have R3 := C0.r.on hb3
              have hb4 : Kp b B w w3 := C0.bel.on hb3
              clear x0 x1 FT H41 C0
              go_wp2_with fail
              go_ret
              rw [unhide HR]
              exact ⟨rfl, ⟨_, _, R3⟩, hb4⟩
        | false =>
          have HLL := hide C0.l
          have hst0 : Hid (st'.length ≤ 20000) := hide (by have h := congrArg List.length (unhide HH).2.2; rw [List.length_map] at h; omega)
          have dk0 : (k == 0) = false := beq_eq_false_iff_ne.2 hk0
          have dk3 : (k == 3) = false := beq_eq_false_iff_ne.2 (fun e => by rw [e] at htk; exact absurd htk (by decide))
          have dk4 : (k == 4) = false := beq_eq_false_iff_ne.2 (fun e => by rw [e] at htk; exact absurd htk (by decide))
          have dk8 : (k == 8) = false := beq_eq_false_iff_ne.2 (fun e => by rw [e] at htk; exact absurd htk (by decide))
          have HC2 : Hid (closeF (xs.map ktm) st' (ns ++ [(k, noA, (ns.length : Int) - 1, 0)]) p = r) := hide ((closeF_one hk0 htk).symm.trans (unhide HC))
          have RX := C0.r
          have FX := C0.f
          have hbX := C0.bel
          clear HC hk0 htk C0
          generalize W = WX at RX FX hbX x0 x1 ⊢
          obtain ⟨r2, r3⟩ : _ ∧ _ := ⟨RX.c2, RX.c3⟩
          have hnB : ∀ m, (Value.slice nq zs.length ncp).ownBlock = some m → m < WX.heap.size := fun m hm => (FX.n.row.lt m hm).2
          have hoB : ∀ m, (Value.slice (some ⟨g, 0, none⟩) L oc).ownBlock = some m → m < WX.heap.size := fun m hm => (FX.o.lt m hm).2
          have FADD := hide (add_any (emptyN k ((zs.length : Int) - 1) 0) WX WX RX FX hnB hoB hbX.at hbB hbX.at (.slice none 0 0) (emptyN_own _ _ _ _ _ _))
          have HZ2 : Hid ((addZ zs (emptyN k ((zs.length : Int) - 1) 0)).map Nz.pl = cutL (ns ++ [(k, noA, (ns.length : Int) - 1, 0)])) := hide (addZ_cut (unhide HZ) (fun h40 => by
            have hzl := unhide HZL
            have ha := (unhide HH).1
            have hb := (unhide HH).2.1
            show (k, (([] : List UInt8), ([] : List Bb)), (zs.length : Int) - 1, (0 : Int)) = (k, cutA noA, (ns.length : Int) - 1, 0); rw [cutA_none, show zs.length = ns.length by omega]; rfl))
          have HP2 : Hid (PlaceN st' (ns ++ [(k, noA, (ns.length : Int) - 1, 0)])) := hide ((unhide HP).tail.add _)
          have hn2 : 1 ≤ (ns ++ [(k, noA, (ns.length : Int) - 1, 0)] : List Np).length := by simp
          have hlb := hide (fun V (h : Kp b B WX V) => hbX.trans h)
          clear hnB hoB HZ
          generalize ns ++ [(k, noA, (ns.length : Int) - 1, 0)] = ns2 at HZ2 HP2 hn2 HC2
          generalize addZ zs (emptyN k ((zs.length : Int) - 1) 0) = zs2 at FADD HZ2
          go_wp2_with fail
          refine (unhide FADD).mono ?_
          rintro e w5 ⟨rfl, nv5, R5, F5, hb5⟩
          have hb6 := unhide hlb w5 hb5
          have F6 := (Frm.pop F5 (unhide HLL)).turn (Turns.seti b 3 w5 (.slice (some ⟨g, 0, none⟩) (L - 1) oc)) hbB
          have R6 := R5.setO (.slice (some ⟨g, 0, none⟩) (L - 1) oc)
          have hb7 : Kp b B w (w5.setCell ⟨b, 3, none⟩ (.slice (some ⟨g, 0, none⟩) (L - 1) oc)) := hb6.set (p := ⟨b, 3, none⟩) (Or.inl rfl) _
          obtain ⟨t3, g3⟩ : _ ∧ _ := ⟨R5.c3, R5.f3⟩
          have hol6 := R6.olen
          have hs0 := unhide hst0
          have hL0 : (0 : Int) ≤ (L : Int) - 1 := by omega
          have hLc : (L : Int) - 1 ≤ (oc : Int) := by omega
          clear FADD RX FX hbX hlb hb5 hb6 F5 R5 r2 r3 x0 x1
          go_wp2_with fail
          rw [← (unhide HH).2.2] at F6
          go_roundw
          case rel => exact ⟨st', ns2, p, zs2, nv5, _, HC2, HZ2, hn2, HP2, hs0, R6, F6, hb7⟩
          case measure => rw [hol, hol6]; omega
end Go.Proofs.YtcjnhhbcleljmaaGreatDoor.Sb
namespace Go.Proofs.YtcjnhhbcleljmaaGreatDoor.Sb
open Go.RowKit
open V

/-- What reader.formula answers. -/
def FormE (w0 w : World) (b B : Nat) (a : Option Addr) (n c : Nat) (r : Except Nat (List Np × Nat)) (e : Ending) (w' : World) : Prop := match r with
  | .error q => e = .returned (.tuple #[.slice none 0 0, .bool false]) ∧ (∃ nv ov, Fdr w0 w' b a n c q nv ov) ∧ Kp b B w w'
  | .ok x => (∃ q m cp zs, e = .returned (.tuple #[.slice q m cp, .bool true]) ∧ OwnN w' B (.slice q m cp) zs ∧ zs.map Nz.pl = cutL x.1) ∧ (∃ nv ov, Fdr w0 w' b a n c x.2 nv ov) ∧ Kp b B w w'
theorem cutO_zero {s st : List Opn} (h : ∀ t ∈ s, t.2 = 0) : s ++ st.map cutO = (s ++ st).map cutO := by
  have e : s.map cutO = s := map_same (fun t ht => by
    obtain ⟨k, a⟩ := t
    have := h _ ht
    simp only at this
    subst this
    rfl)
  rw [List.map_append, e]
set_option maxHeartbeats 8000000 in
set_option maxRecDepth 100000 in
theorem rformula_any {w0 : World} {a : Option Addr} {n c : Nat} {xs : List Tm} (G : Sg w0 a n c xs) (hw : Wd w0) {b B p : Nat} (hbB : b < B) (r : Except Nat (List Np × Nat)) (w : World) (R : Fdr w0 w b a n c p (.slice none 0 0) (.slice none 0 0)) (hBw : B ≤ w.heap.size) (H : Hid (formF (xs.map ktm) (n + 1 - p) [] [] p = r)) :
    Calls Tryz.prog 75 #[.pointer (some ⟨b, 0, none⟩)] w fun e w' => FormE w0 w b B a n c r e w' := by
  have hlen := G.len
  have hfew := G.few
  go_enter Tryz.func75, Tryz.ntmps75
  go_wp2_with fail
  go_loopw [] (fun wr => ∃ (m : Nat) (st : List Opn) (ns : List Np) (p : Nat) (zs : List Nz) (nv ov : Value), Hid (formF (xs.map ktm) m st ns p = r) ∧ n < p + m ∧ Hid (zs.map Nz.pl = cutL ns) ∧ Hid (PlaceN st ns) ∧ Hid (FormN ns) ∧ st.length ≤ p ∧ Fdr w0 wr b a n c p nv ov ∧ Frm wr B nv zs ov (st.map cutO) ∧ Kp b B w wr) (fun wr => n - placeOf b wr)
  case atStart => exact ⟨n + 1 - p, [], [], p, [], _, _, H, by omega, hide rfl, hide (fun t h => by cases h), hide (fun t h => by cases h), Nat.zero_le _, R, Frm.nil _ _, Kp.refl hbB hBw⟩
  case round =>
    obtain ⟨m, st, ns, p, zs, nv, ov, HC, hm, HZ, HP, HN, hst, R1, F1, hbw⟩ := hrel
    clear R H
    have hpl := R1.place
    obtain ⟨s, q, j, e1, e2, e3, e4, e5, e6, e7, e8⟩ := formF_pass (ks := xs.map ktm) (m := m) (st := st) (ns := ns) (p := p) (by rw [hlen]; exact hm) (by rw [hlen]; exact R1.le)
    rw [hlen] at e3 e5
    have FP := hide (passOpening_any G hw m s q wr R1 F1 hbB hbw.at (by rw [List.length_map]; exact hst) hm (hide e7))
    have HC1 := hide (e1.symm.trans (unhide HC))
    have HK := hide e2
    have HSO := hide (cutO_zero (st := st) e8)
    have hsl : (s ++ st).length ≤ q := by rw [List.length_append]; omega
    have HP1 : Hid (PlaceN (s ++ st) ns) := hide (fun t ht => by
      rcases List.mem_append.1 ht with ht | ht
      · rw [e8 t ht]; omega
      · exact unhide HP t ht)
    obtain ⟨ra, hra⟩ : ∃ ra, readAt ((xs.map ktm).drop q) q = ra := ⟨_, rfl⟩
    have HRA := hide hra
    clear e1 e2 e7 e8 HC HP hra F1 e6 hst hm
    go_wp2_with fail
    refine (unhide FP).mono ?_
    rintro e w1 ⟨rfl, ov1, R2, F2, hb1⟩
    rw [unhide HSO] at F2
    have hbw1 := hbw.trans hb1
    have FA := hide (fatom_any G ra w1 R2 HRA)
    clear FP HSO R1 hb1 hbw
    generalize s ++ st = so at F2 hsl HP1 HC1
    go_wp2_with fail
    refine (unhide FA).mono ?_
    rintro e w2 hE
    clear FA
    have hW1 : b ≤ w1.heap.size := Nat.le_of_lt R2.lt
    rcases ra with q' | x
    · obtain ⟨rfl, R3, ht3⟩ := hE
      have HR : Hid (r = .error q') := hide ((unhide HC1).symm.trans (formF_bad (unhide HK) (unhide HRA)))
      have hbx := below_new w2 (.cells #[.string ⟨#[]⟩, .slice none 0 0] 46)
      have R4 := R3.on hbx
      have hb4 : Kp b B w (w2.alloc (.cells #[.string ⟨#[]⟩, .slice none 0 0] 46)) := (hbw1.turn ht3).on hbx
      clear HC1 HK HRA F2 R2 R3 ht3 hbx
      go_wp2_with fail
      refine bodyPost_ret (v := .tuple #[.slice none 0 0, .bool false]) (by simp [results, Tryz.results75, go_sem]) rfl ?_
      rw [unhide HR]
      exact ⟨rfl, ⟨_, _, R4⟩, hb4⟩
    · obtain ⟨⟨sn, ao, am, amc, rfl, hsn, ho⟩, R3, ht3⟩ := hE
      have hbd := readAt_bounds (unhide HRA)
      rw [List.length_drop, hlen] at hbd
      have HCL := hide ((formF_atom (m := j) (st := so) (ns := ns) (unhide HK) (unhide HRA)).symm.trans (unhide HC1))
      have hbx := below_new w2 (.cells #[.string sn, .slice ao am amc] 46)
      have hnw := heap_alloc_new w2 (.cells #[.string sn, .slice ao am amc] 46)
      have R4 := R3.on hbx
      have F4 := (F2.turn ht3 hbB).on hbx
      have ho4 := own_on ho hbx
      have hb4 : Kp b B w (w2.alloc (.cells #[.string sn, .slice ao am amc] 46)) := (hbw1.turn ht3).on hbx
      have y0 : (w2.alloc (.cells #[.string sn, .slice ao am amc] 46)).cell? ⟨w2.heap.size, 0, none⟩ = some (.string sn) := by rw [Lib.cell_of_heap hnw]; rfl
      have y1 : (w2.alloc (.cells #[.string sn, .slice ao am amc] 46)).cell? ⟨w2.heap.size, 1, none⟩ = some (.slice ao am amc) := by rw [Lib.cell_of_heap hnw]; rfl
      have hnB : ∀ m, nv.ownBlock = some m → m < w1.heap.size := fun m hm => (F2.n.row.lt m hm).2
      have hoB : ∀ m, ov1.ownBlock = some m → m < w1.heap.size := fun m hm => (F2.o.lt m hm).2
      have FADD := hide (add_any (⟨1, sn, ao, am, amc, (cutA x.1).2, 0, 0⟩ : Nz) w1 _ R4 F4 hnB hoB hbw1.at hbB hb4.at (.slice none 0 0) ⟨ho4, apart_none _⟩)
      have HZ2 : Hid ((addZ zs (⟨1, sn, ao, am, amc, (cutA x.1).2, 0, 0⟩ : Nz)).map Nz.pl = cutL (ns ++ [(1, x.1, 0, 0)])) := hide (addZ_cut (unhide HZ) (fun _ => by
        show ((1 : Int), (sn.data.toList, (cutA x.1).2), (0 : Int), (0 : Int)) = (1, cutA x.1, 0, 0)
        rw [hsn]))
      have HP2 : Hid (PlaceN so (ns ++ [(1, x.1, 0, 0)])) := hide ((unhide HP1).add _)
      have HN2 : Hid (FormN (ns ++ [(1, x.1, 0, 0)])) := hide ((unhide HN).add (Or.inl rfl))
      have hn2 : 1 ≤ (ns ++ [(1, x.1, 0, 0)] : List Np).length := by simp
      have hlb := hide (fun V (h : Kp b B (w2.alloc (.cells #[.string sn, .slice ao am amc] 46)) V) => hb4.trans h)
      unfold finF at HCL
      clear hsn ho ho4 hbx hnw R3 R4 F4 hb4 hnB hoB HC1 HK HRA F2 R2 ht3 HZ HP1 HN hbw1
      obtain ⟨x1, x2⟩ := x
      simp only at HCL HZ2 HP2 HN2 hn2 hbd FADD
      generalize ns ++ [(1, x1, 0, 0)] = ns2 at HZ2 HP2 HN2 hn2 HCL
      generalize addZ zs (⟨1, sn, ao, am, amc, (cutA x1).2, 0, 0⟩ : Nz) = zs2 at FADD HZ2
      obtain ⟨rc, hrc⟩ : ∃ rc, closeF (xs.map ktm) so ns2 x2 = rc := ⟨_, rfl⟩
      rw [hrc] at HCL
      have HRC := hide hrc
      have hq2 : x2 ≤ (xs.map ktm).length := by omega
      clear hrc
      go_wp2_with fail
      refine (unhide FADD).mono ?_
      rintro e w5 ⟨rfl, nv5, R5, F5, hb5⟩
      have hb6 := unhide hlb w5 hb5
      have FC := hide (passClosing_any G hw so ns2 rc w5 R5 F5 hbB hb6.at HZ2 hn2 HP2 (by omega) HRC)
      clear FADD hlb y0 y1 F5 R5 hb5
      go_wp2_with fail
      refine (unhide FC).mono ?_
      rintro e w6 hE
      clear FC
      rcases rc with q' | ⟨st', ns', q'⟩
      · obtain ⟨rfl, hR6, hb7⟩ := hE
        have HR : Hid (r = .error q') := hide (unhide HCL).symm
        have hb8 := hb6.trans hb7
        clear HCL HRC HZ2 HP2 HN2
        go_wp2_with fail
        refine bodyPost_ret (v := .tuple #[.slice none 0 0, .bool false]) (by simp [results, Tryz.results75, go_sem]) rfl ?_
        rw [unhide HR]
        exact ⟨rfl, hR6, hb8⟩
      · obtain ⟨rfl, ⟨nv6, ov6, zs6, R6, F6, hz6⟩, hb7⟩ := hE
        have hb8 := hb6.trans hb7
        have hcf := closeF_form (unhide HN2) (unhide HP2) hn2 (unhide HRC)
        have hcb := closeF_bounds hq2 (unhide HRC)
        simp only at hcf hcb R6 F6 hz6
        rw [hlen] at hcb
        obtain ⟨nq, ncp, rfl⟩ : ∃ nq ncp, nv6 = .slice nq zs6.length ncp := own_slice F6.n.row
        cases st' with
        | nil =>
          obtain ⟨oq, oc, rfl⟩ : ∃ oq oc, ov6 = .slice oq 0 oc := own_slice F6.o
          have HR : Hid (r = .ok (ns', q')) := hide (unhide HCL).symm
          obtain ⟨r2, r3⟩ : _ ∧ _ := ⟨R6.c2, R6.c3⟩
          clear HCL HRC HZ2 HP2 HN2 hcf hcb
          go_wp2_with fail
          refine bodyPost_ret (v := .tuple #[.slice nq zs6.length ncp, .bool true]) (by simp [results, Tryz.results75, go_sem]) rfl ?_
          rw [unhide HR]
          exact ⟨⟨nq, _, ncp, zs6, rfl, F6.n, hz6⟩, ⟨_, _, R6⟩, hb8⟩
        | cons t st' =>
          have ho6 := F6.o
          have hL : ((t :: st').map cutO).length = st'.length + 1 := by simp
          rw [hL] at ho6
          obtain ⟨L, hLL⟩ : ∃ L, st'.length + 1 = L := ⟨_, rfl⟩
          rw [hLL] at ho6
          obtain ⟨oq, oc, rfl⟩ : ∃ oq oc, ov6 = .slice oq L oc := own_slice ho6
          have HR : Hid (formF (xs.map ktm) j (t :: st') ns' q' = r) := hide (unhide HCL)
          obtain ⟨r2, r3⟩ : _ ∧ _ := ⟨R6.c2, R6.c3⟩
          have dL : ((L : Int) == 0) = false := beq_eq_false_iff_ne.2 (by omega)
          have hst6 : (t :: st').length ≤ q' := by simp only [List.length_cons]; have := hcf.2.2.2; simp only [List.length_cons] at this; omega
          have HF1 := hide hcf.1
          have HF2 := hide hcf.2.1
          have HZ6 := hide hz6
          have hpl6 := R6.place
          have hm6 : n < q' + j := by omega
          have hq6 : p < q' := by omega
          have hqn : q' ≤ n := hcb.2
          clear HCL HRC HZ2 HP2 HN2 hcf hcb ho6 hL hLL hz6
          generalize t :: st' = st6 at F6 HR hst6 HF2
          go_wp2_with fail
          go_roundw
          case rel => exact ⟨j, st6, ns', q', zs6, _, _, HR, hm6, HZ6, HF2, HF1, hst6, R6, F6, hb8⟩
          case measure => rw [hpl, hpl6]; omega
end Go.Proofs.YtcjnhhbcleljmaaGreatDoor.Sb
namespace Go.Proofs.YtcjnhhbcleljmaaGreatDoor.Sb
open Go.RowKit
open V

/-- A pattern's box, none of its cells frozen. -/
structure PB (W : World) (g : Nat) (v0 v1 v2 v3 : Value) : Prop where
  at_ : W.heap[g]? = some (.cells #[v0, v1, v2, v3] 48 (0, 0))
namespace PB
variable {W W' : World} {g b : Nat} {v0 v1 v2 v3 : Value}
theorem lt (h : PB W g v0 v1 v2 v3) : g < W.heap.size := (Array.getElem?_eq_some_iff.1 h.at_).1
theorem new (w : World) : PB (w.alloc (.cells #[v0, v1, v2, v3] 48)) w.heap.size v0 v1 v2 v3 := ⟨heap_alloc_new w _⟩
theorem on (h : PB W g v0 v1 v2 v3) (hb : Below W.heap.size W W') : PB W' g v0 v1 v2 v3 := ⟨by rw [hb.block g h.lt]; exact h.at_⟩
theorem turn (h : PB W g v0 v1 v2 v3) (ht : Turns b W W') (hne : g ≠ b) : PB W' g v0 v1 v2 v3 := ⟨(ht.block g h.lt (fun e => hne (Option.some.inj e))).trans h.at_⟩
theorem c0 (h : PB W g v0 v1 v2 v3) : W.cell? ⟨g, 0, none⟩ = some v0 := by rw [Lib.cell_of_heap h.at_]; rfl
theorem c1 (h : PB W g v0 v1 v2 v3) : W.cell? ⟨g, 1, none⟩ = some v1 := by rw [Lib.cell_of_heap h.at_]; rfl
theorem c2 (h : PB W g v0 v1 v2 v3) : W.cell? ⟨g, 2, none⟩ = some v2 := by rw [Lib.cell_of_heap h.at_]; rfl
theorem c3 (h : PB W g v0 v1 v2 v3) : W.cell? ⟨g, 3, none⟩ = some v3 := by rw [Lib.cell_of_heap h.at_]; rfl
theorem fz (h : PB W g v0 v1 v2 v3) (i : Nat) : W.frozen? ⟨g, i, none⟩ = false := Lib.frozen_of_heap h.at_ i
theorem set0 (h : PB W g v0 v1 v2 v3) (x : Value) : PB (W.setCell ⟨g, 0, none⟩ x) g x v1 v2 v3 := ⟨by rw [Lib.heap_setCell_same h.at_]; rfl⟩
theorem set1 (h : PB W g v0 v1 v2 v3) (x : Value) : PB (W.setCell ⟨g, 1, none⟩ x) g v0 x v2 v3 := ⟨by rw [Lib.heap_setCell_same h.at_]; rfl⟩
theorem set2 (h : PB W g v0 v1 v2 v3) (x : Value) : PB (W.setCell ⟨g, 2, none⟩ x) g v0 v1 x v3 := ⟨by rw [Lib.heap_setCell_same h.at_]; rfl⟩
theorem set3 (h : PB W g v0 v1 v2 v3) (x : Value) : PB (W.setCell ⟨g, 3, none⟩ x) g v0 v1 v2 x := ⟨by rw [Lib.heap_setCell_same h.at_]; rfl⟩
end PB
theorem four_p {W : World} {g : Nat} {v0 v1 v2 v3 : Value} (h : PB W g v0 v1 v2 v3) (x0 x1 x2 x3 : Value) : PB (four W g x0 x1 x2 x3) g x0 x1 x2 x3 := (((h.set0 x0).set1 x1).set2 x2).set3 x3
theorem four_f {w0 W : World} {b : Nat} {a : Option Addr} {n c p : Nat} {nv ov : Value} (R : Fdr w0 W b a n c p nv ov) {g : Nat} (hg : w0.heap.size ≤ g) (hne : g ≠ b) (x0 x1 x2 x3 : Value) : Fdr w0 (four W g x0 x1 x2 x3) b a n c p nv ov :=
  (((R.new hg hne x0).new hg hne x1).new hg hne x2).new hg hne x3
theorem Nz.Own.low {z : Nz} {w : World} {B g i : Nat} {v : Value} (h : z.Own w B v) (hg : g < B) (u : Value) : z.Own (w.setCell ⟨g, i, none⟩ u) B v := ⟨own_low h.t hg u, h.ta⟩
theorem OwnN.low {w : World} {B g i : Nat} {v : Value} {zs : List Nz} (h : OwnN w B v zs) (hg : g < B) (u : Value) : OwnN (w.setCell ⟨g, i, none⟩ u) B v zs := ⟨own_low h.row hg u, fun c hc => (h.all c hc).low hg u⟩
abbrev zP : Obj := .cells #[.string ⟨#[]⟩, .string ⟨#[]⟩, .slice none 0 0, .slice none 0 0] 48
abbrev zeroPz : Pz := ⟨⟨#[]⟩, ⟨#[]⟩, none, 0, 0, [], none, 0, 0, []⟩
/-- A pattern whose rows are memory of the call's own. -/
structure Pz.Own (p : Pz) (w : World) (B : Nat) : Prop where
  t : w.ownsRow B 141 4 (.slice p.ta p.tm p.tc) p.tm (flatB p.ts)
  z : OwnN w B (.slice p.na p.nl p.nc) p.zs
theorem Pz.Own.on {p : Pz} {w w' : World} {B : Nat} (h : p.Own w B) (hb : Below w.heap.size w w') : p.Own w' B := ⟨own_on h.t hb, h.z.on hb⟩
theorem Pz.Own.mono {p : Pz} {w : World} {B B' : Nat} (h : p.Own w B) (hB : B' ≤ B) : p.Own w B' := ⟨own_mono h.t hB, h.z.mono hB⟩
theorem Pz.Own.lies {p : Pz} {w : World} {B : Nat} (h : p.Own w B) : p.In w := ⟨lies_ownE h.t, h.z.lies⟩
/-- What reader.pattern answers. -/
def PatE (w0 w : World) (b : Nat) (a : Option Addr) (n c : Nat) (r : Except Nat (Pp × Nat)) (e : Ending) (w' : World) : Prop := match r with
  | .error q => e = .returned (.tuple #[aggP zeroPz, .bool false]) ∧ (∃ nv ov, Fdr w0 w' b a n c q nv ov) ∧ Turns b w w'
  | .ok x => (∃ z : Pz, e = .returned (.tuple #[aggP z, .bool true]) ∧ z.Own w' w.heap.size ∧ z.pl = cutP x.1) ∧ (∃ nv ov, Fdr w0 w' b a n c x.2 nv ov) ∧ Turns b w w'
section
variable {ks : List Kt} {p : Nat}
/-- What stands behind a pattern's formula. -/
def patU (n : List UInt8) (ks : List Kt) (a : At) : Except Nat (List Np × Nat) → Except Nat (Pp × Nat)
  | .error e => .error e
  | .ok x => if ks[x.2]? = some (5, [46]) then .ok ((n, a, x.1), x.2 + 1) else .error x.2
/-- What stands behind a pattern's trigger. -/
def patT (n : List UInt8) (ks : List Kt) (a : At × Nat) : Except Nat (Pp × Nat) :=
  if ks[a.2]? = some (5, [61, 62]) then patU n ks a.1 (formF ks (ks.length + 1 - (a.2 + 1)) [] [] (a.2 + 1)) else .error a.2
theorem patF_0 (h : ks[p]? ≠ some (1, wordPat)) : patF ks p = .error p := by unfold patF; rw [if_neg h]
theorem patF_1 (h : ks[p]? = some (1, wordPat)) (h1 : nameK ks (p + 1) = false) : patF ks p = .error (p + 1) := by
  unfold patF
  rw [if_pos h]
  cases hp : ks[p + 1]? with
  | none => rfl
  | some t => simp only; rw [if_neg (by rw [h1]; decide)]
theorem patF_2 {t : Kt} (h : ks[p]? = some (1, wordPat)) (h1 : nameK ks (p + 1) = true) (ht : ks[p + 1]? = some t) (h2 : ks[p + 2]? ≠ some (5, [58])) : patF ks p = .error (p + 2) := by
  unfold patF
  rw [if_pos h, ht]
  simp only
  rw [if_pos h1, if_neg h2]
theorem patF_3 {t : Kt} {e : Nat} (h : ks[p]? = some (1, wordPat)) (h1 : nameK ks (p + 1) = true) (ht : ks[p + 1]? = some t) (h2 : ks[p + 2]? = some (5, [58])) (ha : readAt (ks.drop (p + 3)) (p + 3) = .error e) : patF ks p = .error e := by
  unfold patF
  rw [if_pos h, ht]
  simp only
  rw [if_pos h1, if_pos h2, ha]
theorem patF_4 {t : Kt} {a : At × Nat} (h : ks[p]? = some (1, wordPat)) (h1 : nameK ks (p + 1) = true) (ht : ks[p + 1]? = some t) (h2 : ks[p + 2]? = some (5, [58])) (ha : readAt (ks.drop (p + 3)) (p + 3) = .ok a) : patF ks p = patT t.2 ks a := by
  unfold patF
  rw [if_pos h, ht]
  simp only
  rw [if_pos h1, if_pos h2, ha]
  unfold patT
  simp only
  cases formF ks (ks.length + 1 - (a.2 + 1)) [] [] (a.2 + 1) <;> rfl
end
set_option maxHeartbeats 8000000 in
set_option maxRecDepth 100000 in
theorem rpattern_any {w0 : World} {a : Option Addr} {n c : Nat} {xs : List Tm} (G : Sg w0 a n c xs) (hw : Wd w0) {b p : Nat} (r : Except Nat (Pp × Nat)) (w : World) (R : Fdr w0 w b a n c p (.slice none 0 0) (.slice none 0 0)) (H : Hid (patF (xs.map ktm) p = r)) :
    Calls Tryz.prog 76 #[.pointer (some ⟨b, 0, none⟩)] w fun e w' => PatE w0 w b a n c r e w' := by
  have hlen := G.len
  have hfew := G.few
  have hblt := R.lt
  have hne : w.heap.size ≠ b := fun e => by omega
  have hlo : w0.heap.size ≤ w.heap.size := R.bel.size
  have hpn := R.le
  have hb0 := below_new w zP
  have C0 := PB.new (v0 := .string ⟨#[]⟩) (v1 := .string ⟨#[]⟩) (v2 := .slice none 0 0) (v3 := .slice none 0 0) w
  have R0 := R.on hb0
  have ht0 := Turns.of (b := b) hb0
  have hs0 : (w.alloc zP).heap.size = w.heap.size + 1 := by simp
  clear hb0 R
  go_enter Tryz.func76, Tryz.ntmps76
  go_wp2_with fail
  generalize w.alloc zP = W1 at C0 R0 ht0 hs0 ⊢
  by_cases h1 : (xs.map ktm)[p]? = some (1, wordPat)
  case neg =>
    have HE := hide ((unhide H).symm.trans (patF_0 h1))
    refine (ftakes_no G 1 ⟨#[112, 97, 116, 116, 101, 114, 110]⟩ W1 R0 (hide h1)).mono ?_
    rintro e W2 ⟨rfl, hb2⟩
    have C2 := C0.on hb2
    have R2 := R0.on hb2
    have ht2 := ht0.go hb2
    clear C0 R0 ht0 hb2 H h1 hs0
    have CF := four_p C2 (.string ⟨#[]⟩) (.string ⟨#[]⟩) (.slice none 0 0) (.slice none 0 0)
    have RF := four_f R2 hlo hne (.string ⟨#[]⟩) (.string ⟨#[]⟩) (.slice none 0 0) (.slice none 0 0)
    have tF := four_t ht2 (Nat.le_refl w.heap.size) (.string ⟨#[]⟩) (.string ⟨#[]⟩) (.slice none 0 0) (.slice none 0 0)
    obtain ⟨t0, t1, t2, t3⟩ : _ ∧ _ ∧ _ ∧ _ := ⟨CF.c0, CF.c1, CF.c2, CF.c3⟩
    obtain ⟨z0, z1, z2, z3⟩ : _ ∧ _ ∧ _ ∧ _ := ⟨C2.c0, C2.c1, C2.c2, C2.c3⟩
    obtain ⟨f0, f1, f2, f3⟩ : _ ∧ _ ∧ _ ∧ _ := ⟨C2.fz 0, C2.fz 1, C2.fz 2, C2.fz 3⟩
    clear CF C2
    go_wp2_with fail
    refine bodyPost_ret (v := .tuple #[aggP zeroPz, .bool false]) (by simp [results, Tryz.results76, go_sem, t0, t1, t2, t3]) rfl ?_
    rw [unhide HE]
    exact ⟨rfl, ⟨_, _, RF⟩, tF⟩
  refine (ftakes_yes G 1 ⟨#[112, 97, 116, 116, 101, 114, 110]⟩ W1 R0 (hide h1)).mono ?_
  rintro e W2 ⟨rfl, R2, hta⟩
  have H1 := hide h1
  have C2 := C0.turn hta hne
  have ht2 := ht0.tr hta
  have hs2 : w.heap.size + 1 ≤ W2.heap.size := by have := hta.size; omega
  have h1n := R2.le
  clear C0 R0 ht0 hta hs0 h1
  go_wp2_with fail
  cases hn : nameK (xs.map ktm) (p + 1) with
  | false =>
    have HE := hide ((unhide H).symm.trans (patF_1 (unhide H1) hn))
    have F := fisName_any G false W2 R2 (hide hn)
    clear hn H H1
    refine F.mono ?_
    rintro e W3 ⟨rfl, hb3⟩
    have C3 := C2.on hb3
    have R3 := R2.on hb3
    have ht3 := ht2.go hb3
    clear F C2 R2 ht2 hb3 hs2
    have CF := four_p C3 (.string ⟨#[]⟩) (.string ⟨#[]⟩) (.slice none 0 0) (.slice none 0 0)
    have RF := four_f R3 hlo hne (.string ⟨#[]⟩) (.string ⟨#[]⟩) (.slice none 0 0) (.slice none 0 0)
    have tF := four_t ht3 (Nat.le_refl w.heap.size) (.string ⟨#[]⟩) (.string ⟨#[]⟩) (.slice none 0 0) (.slice none 0 0)
    obtain ⟨t0, t1, t2, t3⟩ : _ ∧ _ ∧ _ ∧ _ := ⟨CF.c0, CF.c1, CF.c2, CF.c3⟩
    obtain ⟨z0, z1, z2, z3⟩ : _ ∧ _ ∧ _ ∧ _ := ⟨C3.c0, C3.c1, C3.c2, C3.c3⟩
    obtain ⟨f0, f1, f2, f3⟩ : _ ∧ _ ∧ _ ∧ _ := ⟨C3.fz 0, C3.fz 1, C3.fz 2, C3.fz 3⟩
    clear CF C3
    go_wp2_with fail
    refine bodyPost_ret (v := .tuple #[aggP zeroPz, .bool false]) (by simp [results, Tryz.results76, go_sem, t0, t1, t2, t3]) rfl ?_
    rw [unhide HE]
    exact ⟨rfl, ⟨_, _, RF⟩, tF⟩
  | true =>
  obtain ⟨x, hx⟩ : ∃ x, xs[p + 1]? = some x := by
    obtain ⟨t, h0, _⟩ := nameK_yes hn
    rw [List.getElem?_map] at h0
    cases hx : xs[p + 1]? with
    | none => rw [hx] at h0; cases h0
    | some x => exact ⟨x, rfl⟩
  have hq1 : p + 1 < n := by
    have := (List.getElem?_eq_some_iff.1 hx).1
    rw [← List.length_map (f := ktm), hlen] at this
    exact this
  have hkx : (xs.map ktm)[p + 1]? = some (ktm x) := by rw [List.getElem?_map, hx]; rfl
  have HX := hide hkx
  have HN := hide hn
  have F := fisName_any G true W2 R2 (hide hn)
  have hz : x.2.1.size ≤ 20000 := unhide G.small x (List.mem_of_getElem? hx)
  have hl3 := G.lies.on R2.bel
  have hx1 := (List.getElem?_eq_some_iff.1 hx).1
  obtain ⟨g, o, ha, hbl, -, c1, -, -⟩ := hl3.row.up hx1
  rw [show xs[p + 1]'hx1 = x from (List.getElem?_eq_some_iff.1 hx).2] at c1
  have hcap := hl3.cap
  have hln := hl3.len
  clear hn hx hkx hl3 hx1
  subst ha
  refine F.mono ?_
  rintro e W3 ⟨rfl, hb3⟩
  have C3 := C2.on hb3
  have R3 := R2.on hb3
  have ht3 := ht2.go hb3
  have c1' := cell_on hb3 c1
  have hs3 : w.heap.size + 1 ≤ W3.heap.size := Nat.le_trans hs2 hb3.size
  obtain ⟨r0, r1⟩ : _ ∧ _ := ⟨R3.c0, R3.c1⟩
  obtain ⟨y0, f0⟩ : _ ∧ _ := ⟨C3.c0, C3.fz 0⟩
  have i0 : (0 : Int) ≤ ((p + 1 : Nat) : Int) := by omega
  have i1 : ((p + 1 : Nat) : Int) < (n : Int) := by omega
  clear F C2 R2 ht2 hb3 hs2 c1
  have HC := hide c1'
  go_upto_region 3 with fail
  go_cut [] from 13 (fun wx => PB wx w.heap.size (.string x.2.1) (.string ⟨#[]⟩) (.slice none 0 0) (.slice none 0 0) ∧ Fdr w0 wx b (some ⟨g, o, none⟩) n c (p + 1) (.slice none 0 0) (.slice none 0 0) ∧ Turns b w wx ∧ w.heap.size + 1 ≤ wx.heap.size)
  case first =>
    first | (go_region_with (go_at_call 89; refine (clone_any x.2.1 _ hz).mono ?_; rintro e w4 ⟨rfl, hb4⟩; have hbW : Below W3.heap.size W3 w4 := bt (Below.refl _ _).drew hb4; have C4 := C3.on hbW; obtain ⟨y0', f0'⟩ : _ ∧ _ := ⟨C4.c0, C4.fz 0⟩)) | fail
    all_goals
      go_wp2_with fail
      go_meet
      exact ⟨C4.set0 (.string x.2.1), (R3.on hbW).new hlo hne (i := 0) (.string x.2.1), (ht3.go hbW).new (g := w.heap.size) (i := 0) (Nat.le_refl _) (.string x.2.1), by have := hbW.size; simp; omega⟩
  case rest =>
    obtain ⟨C5, R5, ht5, hs5⟩ := hcut
    clear R3 ht3 C3 hs3 HC c1' y0 f0 r0 r1 i0 i1 hcap hln hbl
    obtain ⟨q1, k1⟩ : _ ∧ _ := ⟨R5.c1, R5.f1⟩
    go_wp2_with fail
    clear q1 k1
    by_cases h2 : (xs.map ktm)[p + 2]? = some (5, [58])
    case neg =>
      have HE := hide ((unhide H).symm.trans (patF_2 (unhide H1) (unhide HN) (unhide HX) h2))
      refine (ftakes_no G 5 ⟨#[58]⟩ _ (R5.set (q := p + 2) (by omega) (by omega)) (hide h2)).mono ?_
      rintro e W6 ⟨rfl, hb6⟩
      have C6 := (C5.turn (Turns.set b wc _) hne).on hb6
      have R6 := (R5.set (q := p + 2) (by omega) (by omega)).on hb6
      have ht6 := (ht5.tr (Turns.set b wc _)).go hb6
      clear C5 R5 ht5 hb6 hs5 h2 H H1 HN HX
      have CF := four_p C6 (.string ⟨#[]⟩) (.string ⟨#[]⟩) (.slice none 0 0) (.slice none 0 0)
      have RF := four_f R6 hlo hne (.string ⟨#[]⟩) (.string ⟨#[]⟩) (.slice none 0 0) (.slice none 0 0)
      have tF := four_t ht6 (Nat.le_refl w.heap.size) (.string ⟨#[]⟩) (.string ⟨#[]⟩) (.slice none 0 0) (.slice none 0 0)
      obtain ⟨t0, t1, t2, t3⟩ : _ ∧ _ ∧ _ ∧ _ := ⟨CF.c0, CF.c1, CF.c2, CF.c3⟩
      obtain ⟨z0, z1, z2, z3⟩ : _ ∧ _ ∧ _ ∧ _ := ⟨C6.c0, C6.c1, C6.c2, C6.c3⟩
      obtain ⟨f0, f1, f2, f3⟩ : _ ∧ _ ∧ _ ∧ _ := ⟨C6.fz 0, C6.fz 1, C6.fz 2, C6.fz 3⟩
      clear CF C6
      go_wp2_with fail
      refine bodyPost_ret (v := .tuple #[aggP zeroPz, .bool false]) (by simp [results, Tryz.results76, go_sem, t0, t1, t2, t3]) rfl ?_
      rw [unhide HE]
      exact ⟨rfl, ⟨_, _, RF⟩, tF⟩
    have H2 := hide h2
    refine (ftakes_yes G 5 ⟨#[58]⟩ _ (R5.set (q := p + 2) (by omega) (by omega)) (hide h2)).mono ?_
    rintro e W6 ⟨rfl, R6', hta⟩
    have R6 : Fdr w0 W6 b _ n c (p + 3) (.slice none 0 0) (.slice none 0 0) := R6'
    have C6 := (C5.turn (Turns.set b wc _) hne).turn hta hne
    have ht6 := (ht5.tr (Turns.set b wc _)).tr hta
    have hs6 : w.heap.size + 1 ≤ W6.heap.size := by have := hta.size; simp at this hs5; omega
    clear C5 R5 ht5 hta h2 hs5 R6'
    obtain ⟨ra, hra⟩ : ∃ ra, readAt ((xs.map ktm).drop (p + 3)) (p + 3) = ra := ⟨_, rfl⟩
    have F := hide (fatom_any G ra W6 R6 (hide hra))
    go_wp2_with fail
    refine (unhide F).mono ?_
    rintro e W7 hE
    clear F
    rcases ra with q | y
    · obtain ⟨rfl, R7', hta⟩ := hE
      have HE := hide ((unhide H).symm.trans (patF_3 (unhide H1) (unhide HN) (unhide HX) (unhide H2) hra))
      have C7' := C6.turn hta hne
      have C7 := (C7'.set1 (.string ⟨#[]⟩)).set2 (.slice none 0 0)
      have R7 := (R7'.new hlo hne (i := 1) (.string ⟨#[]⟩)).new hlo hne (i := 2) (.slice none 0 0)
      have ht7 := ((ht6.tr hta).new (g := w.heap.size) (i := 1) (Nat.le_refl _) (.string ⟨#[]⟩)).new (g := w.heap.size) (i := 2) (Nat.le_refl _) (.slice none 0 0)
      obtain ⟨y1, y2, g1, g2⟩ : _ ∧ _ ∧ _ ∧ _ := ⟨C7'.c1, C7'.c2, C7'.fz 1, C7'.fz 2⟩
      clear C6 R6 ht6 hta hra H H1 HN HX H2 hs6 R7' C7'
      have CF := four_p C7 (.string ⟨#[]⟩) (.string ⟨#[]⟩) (.slice none 0 0) (.slice none 0 0)
      have RF := four_f R7 hlo hne (.string ⟨#[]⟩) (.string ⟨#[]⟩) (.slice none 0 0) (.slice none 0 0)
      have tF := four_t ht7 (Nat.le_refl w.heap.size) (.string ⟨#[]⟩) (.string ⟨#[]⟩) (.slice none 0 0) (.slice none 0 0)
      obtain ⟨t0, t1, t2, t3⟩ : _ ∧ _ ∧ _ ∧ _ := ⟨CF.c0, CF.c1, CF.c2, CF.c3⟩
      obtain ⟨z0, z1, z2, z3⟩ : _ ∧ _ ∧ _ ∧ _ := ⟨C7.c0, C7.c1, C7.c2, C7.c3⟩
      obtain ⟨f0, f1, f2, f3⟩ : _ ∧ _ ∧ _ ∧ _ := ⟨C7.fz 0, C7.fz 1, C7.fz 2, C7.fz 3⟩
      clear CF C7
      go_wp2_with fail
      refine bodyPost_ret (v := .tuple #[aggP zeroPz, .bool false]) (by simp [results, Tryz.results76, go_sem, t0, t1, t2, t3]) rfl ?_
      rw [unhide HE]
      exact ⟨rfl, ⟨_, _, RF⟩, tF⟩
    obtain ⟨⟨sn, ao, am, amc, rfl, hsn, ho⟩, R7', hta⟩ := hE
    have hbd := readAt_bounds hra
    rw [List.length_drop, hlen] at hbd
    have HK := hide ((patF_4 (unhide H1) (unhide HN) (unhide HX) (unhide H2) hra).symm.trans (unhide H))
    have C7' := C6.turn hta hne
    have C7 := (C7'.set1 (.string sn)).set2 (.slice ao am amc)
    have R7 := (R7'.new hlo hne (i := 1) (.string sn)).new hlo hne (i := 2) (.slice ao am amc)
    have ht7 := ((ht6.tr hta).new (g := w.heap.size) (i := 1) (Nat.le_refl _) (.string sn)).new (g := w.heap.size) (i := 2) (Nat.le_refl _) (.slice ao am amc)
    have hs7 : w.heap.size + 1 ≤ ((W7.setCell ⟨w.heap.size, 1, none⟩ (.string sn)).setCell ⟨w.heap.size, 2, none⟩ (.slice ao am amc)).heap.size := by have := hta.size; simp; omega
    have ho7 := own_low (own_low (own_mono ho hs6) (g := w.heap.size) (i := 1) (Nat.lt_succ_self _) (.string sn)) (g := w.heap.size) (i := 2) (Nat.lt_succ_self _) (.slice ao am amc)
    obtain ⟨y1, y2, g1, g2⟩ : _ ∧ _ ∧ _ ∧ _ := ⟨C7'.c1, C7'.c2, C7'.fz 1, C7'.fz 2⟩
    have HSN := hide hsn
    obtain ⟨ya, yp⟩ := y
    simp only at HK R7 hbd ho7 HSN
    clear C6 R6 ht6 hta hra H H1 HN HX H2 hs6 R7' C7' ho hsn
    go_wp2_with fail
    clear y1 y2 g1 g2
    generalize (W7.setCell ⟨w.heap.size, 1, none⟩ (.string sn)).setCell ⟨w.heap.size, 2, none⟩ (.slice ao am amc) = W8 at C7 R7 ht7 hs7 ho7 ⊢
    by_cases h3 : (xs.map ktm)[yp]? = some (5, [61, 62])
    case neg =>
      have HE : Hid (r = .error yp) := hide (by rw [← unhide HK]; unfold patT; rw [if_neg h3])
      refine (ftakes_no G 5 ⟨#[61, 62]⟩ W8 R7 (hide h3)).mono ?_
      rintro e W9 ⟨rfl, hb9⟩
      have C9 := C7.on hb9
      have R9 := R7.on hb9
      have ht9 := ht7.go hb9
      clear C7 R7 ht7 hb9 hs7 h3 HK ho7
      have CF := four_p C9 (.string ⟨#[]⟩) (.string ⟨#[]⟩) (.slice none 0 0) (.slice none 0 0)
      have RF := four_f R9 hlo hne (.string ⟨#[]⟩) (.string ⟨#[]⟩) (.slice none 0 0) (.slice none 0 0)
      have tF := four_t ht9 (Nat.le_refl w.heap.size) (.string ⟨#[]⟩) (.string ⟨#[]⟩) (.slice none 0 0) (.slice none 0 0)
      obtain ⟨t0, t1, t2, t3⟩ : _ ∧ _ ∧ _ ∧ _ := ⟨CF.c0, CF.c1, CF.c2, CF.c3⟩
      obtain ⟨z0, z1, z2, z3⟩ : _ ∧ _ ∧ _ ∧ _ := ⟨C9.c0, C9.c1, C9.c2, C9.c3⟩
      obtain ⟨f0, f1, f2, f3⟩ : _ ∧ _ ∧ _ ∧ _ := ⟨C9.fz 0, C9.fz 1, C9.fz 2, C9.fz 3⟩
      clear CF C9
      go_wp2_with fail
      refine bodyPost_ret (v := .tuple #[aggP zeroPz, .bool false]) (by simp [results, Tryz.results76, go_sem, t0, t1, t2, t3]) rfl ?_
      rw [unhide HE]
      exact ⟨rfl, ⟨_, _, RF⟩, tF⟩
    have H3 := hide h3
    refine (ftakes_yes G 5 ⟨#[61, 62]⟩ W8 R7 (hide h3)).mono ?_
    rintro e W9 ⟨rfl, R9, hta⟩
    have C9 := C7.turn hta hne
    have ht9 := ht7.tr hta
    have hs9 : w.heap.size + 1 ≤ W9.heap.size := Nat.le_trans hs7 hta.size
    have ho9 := own_turn ho7 hta (by omega : b < w.heap.size + 1)
    clear C7 R7 ht7 hta h3 hs7 ho7
    obtain ⟨rx, hrx⟩ : ∃ rx, formF (xs.map ktm) (n + 1 - (yp + 1)) [] [] (yp + 1) = rx := ⟨_, rfl⟩
    have HRX := hide hrx
    have F := hide (rformula_any G hw (B := W9.heap.size) (by omega) rx W9 R9 (Nat.le_refl _) HRX)
    have HK2 : Hid (patU (ktm x).2 (xs.map ktm) ya rx = r) := hide (by
      have := unhide HK
      unfold patT at this
      rw [if_pos (unhide H3), hlen, hrx] at this
      exact this)
    clear hrx HK H3
    go_wp2_with fail
    refine (unhide F).mono ?_
    rintro e W10 hE
    clear F
    rcases rx with q | ⟨ns, q⟩
    · obtain ⟨rfl, ⟨nv, ov, R10'⟩, hk⟩ := hE
      have hta := hk.turns
      have HE : Hid (r = .error q) := hide (unhide HK2).symm
      have C10' := C9.turn hta hne
      have C10 := C10'.set3 (.slice none 0 0)
      have R10 := R10'.new hlo hne (i := 3) (.slice none 0 0)
      have ht10 := (ht9.tr hta).new (g := w.heap.size) (i := 3) (Nat.le_refl _) (.slice none 0 0)
      obtain ⟨y3, g3⟩ : _ ∧ _ := ⟨C10'.c3, C10'.fz 3⟩
      clear C9 R9 ht9 hta hk HK2 HRX hs9 ho9 R10' C10'
      have CF := four_p C10 (.string ⟨#[]⟩) (.string ⟨#[]⟩) (.slice none 0 0) (.slice none 0 0)
      have RF := four_f R10 hlo hne (.string ⟨#[]⟩) (.string ⟨#[]⟩) (.slice none 0 0) (.slice none 0 0)
      have tF := four_t ht10 (Nat.le_refl w.heap.size) (.string ⟨#[]⟩) (.string ⟨#[]⟩) (.slice none 0 0) (.slice none 0 0)
      obtain ⟨t0, t1, t2, t3⟩ : _ ∧ _ ∧ _ ∧ _ := ⟨CF.c0, CF.c1, CF.c2, CF.c3⟩
      obtain ⟨z0, z1, z2, z3⟩ : _ ∧ _ ∧ _ ∧ _ := ⟨C10.c0, C10.c1, C10.c2, C10.c3⟩
      obtain ⟨f0, f1, f2, f3⟩ : _ ∧ _ ∧ _ ∧ _ := ⟨C10.fz 0, C10.fz 1, C10.fz 2, C10.fz 3⟩
      clear CF C10
      go_wp2_with fail
      refine bodyPost_ret (v := .tuple #[aggP zeroPz, .bool false]) (by simp [results, Tryz.results76, go_sem, t0, t1, t2, t3]) rfl ?_
      rw [unhide HE]
      exact ⟨rfl, ⟨_, _, RF⟩, tF⟩
    obtain ⟨⟨oq, m, cp, zs, rfl, hO, hzs⟩, ⟨nv, ov, R10'⟩, hk⟩ := hE
    have hta := hk.turns
    have hqn := R10'.le
    have C10' := C9.turn hta hne
    have C10 := C10'.set3 (.slice oq m cp)
    have R10 := R10'.new hlo hne (i := 3) (.slice oq m cp)
    have ht10 := (ht9.tr hta).new (g := w.heap.size) (i := 3) (Nat.le_refl _) (.slice oq m cp)
    have hO10 := (hO.mono hs9).low (g := w.heap.size) (i := 3) (Nat.lt_succ_self _) (.slice oq m cp)
    have ho10 := own_low (own_turn ho9 hta (by omega : b < w.heap.size + 1)) (g := w.heap.size) (i := 3) (Nat.lt_succ_self _) (.slice oq m cp)
    obtain ⟨y3, g3⟩ : _ ∧ _ := ⟨C10'.c3, C10'.fz 3⟩
    have HZS := hide hzs
    simp only at HK2 R10 HZS hqn
    clear C9 R9 ht9 hta hk HRX hs9 ho9 R10' C10' hO hzs
    go_wp2_with fail
    clear y3 g3
    generalize W10.setCell ⟨w.heap.size, 3, none⟩ (.slice oq m cp) = W11 at C10 R10 ht10 hO10 ho10 ⊢
    by_cases h4 : (xs.map ktm)[q]? = some (5, [46])
    case neg =>
      have HE : Hid (r = .error q) := hide ((unhide HK2).symm.trans (if_neg h4))
      refine (ftakes_no G 5 ⟨#[46]⟩ W11 R10 (hide h4)).mono ?_
      rintro e W12 ⟨rfl, hb12⟩
      have C12 := C10.on hb12
      have R12 := R10.on hb12
      have ht12 := ht10.go hb12
      clear C10 R10 ht10 hb12 h4 HK2 hO10 ho10
      have CF := four_p C12 (.string ⟨#[]⟩) (.string ⟨#[]⟩) (.slice none 0 0) (.slice none 0 0)
      have RF := four_f R12 hlo hne (.string ⟨#[]⟩) (.string ⟨#[]⟩) (.slice none 0 0) (.slice none 0 0)
      have tF := four_t ht12 (Nat.le_refl w.heap.size) (.string ⟨#[]⟩) (.string ⟨#[]⟩) (.slice none 0 0) (.slice none 0 0)
      obtain ⟨t0, t1, t2, t3⟩ : _ ∧ _ ∧ _ ∧ _ := ⟨CF.c0, CF.c1, CF.c2, CF.c3⟩
      obtain ⟨z0, z1, z2, z3⟩ : _ ∧ _ ∧ _ ∧ _ := ⟨C12.c0, C12.c1, C12.c2, C12.c3⟩
      obtain ⟨f0, f1, f2, f3⟩ : _ ∧ _ ∧ _ ∧ _ := ⟨C12.fz 0, C12.fz 1, C12.fz 2, C12.fz 3⟩
      clear CF C12
      go_wp2_with fail
      refine bodyPost_ret (v := .tuple #[aggP zeroPz, .bool false]) (by simp [results, Tryz.results76, go_sem, t0, t1, t2, t3]) rfl ?_
      rw [unhide HE]
      exact ⟨rfl, ⟨_, _, RF⟩, tF⟩
    have HE : Hid (r = .ok (((ktm x).2, ya, ns), q + 1)) := hide ((unhide HK2).symm.trans (if_pos h4))
    refine (ftakes_yes G 5 ⟨#[46]⟩ W11 R10 (hide h4)).mono ?_
    rintro e W12 ⟨rfl, R12, hta⟩
    have C12 := C10.turn hta hne
    have ht12 := ht10.tr hta
    have hO12 := hO10.turn hta (by omega : b < w.heap.size + 1)
    have ho12 := own_turn ho10 hta (by omega : b < w.heap.size + 1)
    clear C10 R10 ht10 hta h4 HK2 hO10 ho10
    have CF := four_p C12 (.string x.2.1) (.string sn) (.slice ao am amc) (.slice oq m cp)
    have RF := four_f R12 hlo hne (.string x.2.1) (.string sn) (.slice ao am amc) (.slice oq m cp)
    have tF := four_t ht12 (Nat.le_refl w.heap.size) (.string x.2.1) (.string sn) (.slice ao am amc) (.slice oq m cp)
    have hOF := (((hO12.low (g := w.heap.size) (i := 0) (Nat.lt_succ_self _) (.string x.2.1)).low (g := w.heap.size) (i := 1) (Nat.lt_succ_self _) (.string sn)).low (g := w.heap.size) (i := 2) (Nat.lt_succ_self _) (.slice ao am amc)).low (g := w.heap.size) (i := 3) (Nat.lt_succ_self _) (.slice oq m cp)
    have hoF := own_four ho12 (Nat.lt_succ_self w.heap.size) (.string x.2.1) (.string sn) (.slice ao am amc) (.slice oq m cp)
    obtain ⟨t0, t1, t2, t3⟩ : _ ∧ _ ∧ _ ∧ _ := ⟨CF.c0, CF.c1, CF.c2, CF.c3⟩
    obtain ⟨z0, z1, z2, z3⟩ : _ ∧ _ ∧ _ ∧ _ := ⟨C12.c0, C12.c1, C12.c2, C12.c3⟩
    obtain ⟨f0, f1, f2, f3⟩ : _ ∧ _ ∧ _ ∧ _ := ⟨C12.fz 0, C12.fz 1, C12.fz 2, C12.fz 3⟩
    have HF := hide (And.intro RF (And.intro tF (And.intro hOF hoF)))
    clear CF C12 RF tF hOF hoF R12 ht12 hO12 ho12
    go_wp2_with fail
    refine bodyPost_ret (v := .tuple #[aggP ⟨x.2.1, sn, ao, am, amc, (cutA ya).2, oq, m, cp, zs⟩, .bool true]) (by simp [results, Tryz.results76, go_sem, t0, t1, t2, t3]) rfl ?_
    rw [unhide HE]
    obtain ⟨RF, tF, hOF, hoF⟩ := unhide HF
    refine ⟨⟨⟨x.2.1, sn, ao, am, amc, (cutA ya).2, oq, m, cp, zs⟩, rfl, ⟨own_mono hoF (Nat.le_succ _), hOF.mono (Nat.le_succ _)⟩, ?_⟩, ⟨_, _, RF⟩, tF⟩
    show (x.2.1.data.toList, (sn.data.toList, (cutA ya).2), zs.map Nz.pl) = ((ktm x).2, cutA ya, cutL ns)
    rw [unhide HZS, unhide HSN]
    rfl
end Go.Proofs.YtcjnhhbcleljmaaGreatDoor.Sb
namespace Go.Proofs.YtcjnhhbcleljmaaGreatDoor.Sb
open Go.RowKit
open V

theorem cutL_atom {ns : List Np} {n : Np} (h : n ∈ cutL ns) : ∃ a : At, n.2.1 = cutA a := by
  unfold cutL at h
  obtain ⟨m, _, rfl⟩ := List.mem_map.1 h
  exact ⟨m.2.1, rfl⟩
/-- What is read is not too long to be played. -/
theorem light_cut {zs : List Nz} {ns : List Np} {w : World} {a : Option Addr} {n c : Nat} (hl : LiesN w a n c zs) (h : zs.map Nz.pl = cutL ns) : ∀ z ∈ zs, z.Light := by
  intro z hz
  have hm : z.pl ∈ cutL ns := by rw [← h]; exact List.mem_map_of_mem hz
  obtain ⟨x, hx⟩ := cutL_atom hm
  obtain ⟨l1, l2, l3⟩ := cutA_light x
  rw [← hx] at l1 l2 l3
  have h1 : z.n.data.toList.length ≤ 24 := l1
  have h2 : z.ts.length ≤ 5 := l2
  have h3 : z.m = z.ts.length := Lies.len (hl.all z hz)
  exact ⟨by simp at h1; omega, by omega, l3⟩
theorem len_cut {zs : List Nz} {ns : List Np} {w : World} {a : Option Addr} {n c : Nat} (hl : LiesN w a n c zs) (h : zs.map Nz.pl = cutL ns) : n ≤ 41 := by
  have h1 := hl.le
  have h2 := congrArg List.length h
  rw [List.length_map, cutL_len] at h2
  omega
set_option maxHeartbeats 4000000 in
set_option maxRecDepth 100000 in
theorem fread_arg (a : Option Addr) (n c : Nat) (i : Int) (w : World) (H : i < 0 ∨ (n : Int) < i) :
    Calls Tryz.prog 27 #[.slice a n c, .int .i64 i] w fun e w' => e = .returned (.tuple #[.slice none 0 0, .int .i64 0, .int .i64 1]) ∧ Below w.heap.size w w' := by
  rcases H with H | H
  · have d1 : decide (i < 0) = true := decide_eq_true H
    go_enter Tryz.func27, Tryz.ntmps27
    go_wp2_with fail
    refine bodyPost_ret (v := .tuple #[.slice none 0 0, .int .i64 0, .int .i64 1]) (by simp [results, Tryz.results27, go_sem]) rfl ?_
    exact ⟨rfl, Below.refl _ _⟩
  · have d0 : ¬ i < 0 := by omega
    have d1 : decide ((n : Int) < i) = true := decide_eq_true H
    go_enter Tryz.func27, Tryz.ntmps27
    go_wp2_with fail
    refine bodyPost_ret (v := .tuple #[.slice none 0 0, .int .i64 0, .int .i64 1]) (by simp [results, Tryz.results27, go_sem]) rfl ?_
    exact ⟨rfl, Below.refl _ _⟩
/-- What formula.Read answers. -/
def ReadFE (w : World) (r : Except Nat (List Np × Nat)) (e : Ending) (w' : World) : Prop := match r with
  | .ok x => (∃ (q : Option Addr) (m cp : Nat) (zs : List Nz), e = .returned (.tuple #[.slice q m cp, .int .i64 x.2, .int .i64 0]) ∧ OwnN w' w.heap.size (.slice q m cp) zs ∧ zs.map Nz.pl = x.1) ∧ Below w.heap.size w w'
  | .error q => e = .returned (.tuple #[.slice none 0 0, .int .i64 q, .int .i64 7]) ∧ Below w.heap.size w w'
set_option maxHeartbeats 8000000 in
set_option maxRecDepth 100000 in
theorem fread_any (a : Option Addr) (n c : Nat) (xs : List Tm) (p : Nat) (r : Except Nat (List Np × Nat)) (w : World) (G : Sg w a n c xs) (hw : Wd w) (hp : p ≤ n) (H : Hid (readF (xs.map ktm) p = r)) :
    Calls Tryz.prog 27 #[.slice a n c, .int .i64 (p : Int)] w fun e w' => ReadFE w r e w' := by
  have hlen := G.len
  have d0 : ¬ (p : Int) < 0 := by omega
  have d1 : ¬ n < p := by omega
  obtain ⟨rx, hrx⟩ : ∃ rx, formF (xs.map ktm) (n + 1 - p) [] [] p = rx := ⟨_, rfl⟩
  have HX := hide hrx
  have HR := unhide H
  unfold readF at HR
  rw [hlen, hrx] at HR
  have HRR := hide HR
  have hbx := below_new w (.cells #[.slice a n c, .int .i64 (p : Int), .slice none 0 0, .slice none 0 0] 115)
  have R1 : Fdr w (w.alloc (.cells #[.slice a n c, .int .i64 (p : Int), .slice none 0 0, .slice none 0 0] 115)) w.heap.size a n c p (.slice none 0 0) (.slice none 0 0) := ⟨hbx, Nat.le_refl _, heap_alloc_new w _, hp⟩
  have F := hide (rformula_any G hw (Nat.lt_succ_self _) rx _ R1 R1.lt HX)
  clear hrx HR H R1
  go_enter Tryz.func27, Tryz.ntmps27
  go_wp2_with fail
  generalize w.alloc (.cells #[.slice a n c, .int .i64 (p : Int), .slice none 0 0, .slice none 0 0] 115) = W at hbx F ⊢
  refine (unhide F).mono ?_
  rintro e w1 hE
  clear F
  rcases rx with q | ⟨ns, q⟩
  · obtain ⟨rfl, ⟨nv, ov, R2⟩, hb1⟩ := hE
    have HQ : Hid (r = .error q) := hide (unhide HRR).symm
    have hb2 := Below.trans hbx hb1.below
    obtain ⟨r1, r0⟩ : _ ∧ _ := ⟨R2.c1, R2.c0⟩
    clear HRR HX R2
    go_wp2_with fail
    go_quiet (fail)
    have hb9 := below_drewN hb2 nq
    generalize w1.drewN nq = w9 at hb9 ⊢
    go_wp2_with fail
    refine bodyPost_ret (v := .tuple #[.slice none 0 0, .int .i64 (q : Int), .int .i64 7]) (by simp [results, Tryz.results27, go_sem]) rfl ?_
    rw [unhide HQ]
    exact ⟨rfl, hb9⟩
  · obtain ⟨⟨oq, m, cp, zs, rfl, hO, hz⟩, ⟨nv, ov, R2⟩, hb1⟩ := hE
    have hb2 := Below.trans hbx hb1.below
    have hFN := formF_formN (fun t h => by cases h) (fun t h => by cases h) (unhide HX)
    simp only at hFN hz R2
    have hl := hO.lies
    have hLt := light_cut hl hz
    have hml := len_cut hl hz
    cases hrt : rightFm ns with
    | false =>
      have HQ : Hid (r = .error p) := hide (by
        rw [← unhide HRR]
        simp only
        rw [hrt]
        rfl)
      have FC := hide (fcheck_any oq m cp zs 17 w1 hl hLt (by omega) (hide (by rw [hz, cut_right hFN, hrt]; rfl)))
      clear HRR HX R2 hO hz hl hLt hFN hrt
      go_wp2_with fail
      refine (unhide FC).mono ?_
      rintro e w2 ⟨rfl, hb3⟩
      have hb4 := bt hb2 hb3
      clear FC
      go_wp2_with fail
      refine bodyPost_ret (v := .tuple #[.slice none 0 0, .int .i64 (p : Int), .int .i64 7]) (by simp [results, Tryz.results27, go_sem]) rfl ?_
      rw [unhide HQ]
      exact ⟨rfl, hb4⟩
    | true =>
      have HQ : Hid (r = .ok (ns, q)) := hide (by
        rw [← unhide HRR]
        simp only
        rw [hrt]
        rfl)
      have HZ : Hid (zs.map Nz.pl = ns) := hide (by rw [hz, cut_same hFN hrt])
      have FC := hide (fcheck_any oq m cp zs 0 w1 hl hLt (by omega) (hide (by rw [hz, cut_right hFN, hrt]; rfl)))
      clear HRR HX hz hl hLt hFN hrt
      go_wp2_with fail
      refine (unhide FC).mono ?_
      rintro e w2 ⟨rfl, hb3⟩
      have hb4 := bt hb2 hb3
      have R3 := R2.on hb3
      have hO3 := hO.on hb3
      obtain ⟨r1, r0⟩ : _ ∧ _ := ⟨R3.c1, R3.c0⟩
      clear FC R2 R3 hO
      go_wp2_with fail
      go_quiet (fail)
      have hb9 := below_drewN hb4 nq
      have hO9 := (hO3.on (below_drewN (Below.refl w2.heap.size w2) nq)).mono (Nat.le_succ _)
      generalize w2.drewN nq = w9 at hb9 hO9 ⊢
      go_wp2_with fail
      refine bodyPost_ret (v := .tuple #[.slice oq m cp, .int .i64 (q : Int), .int .i64 0]) (by simp [results, Tryz.results27, go_sem]) rfl ?_
      rw [unhide HQ]
      exact ⟨⟨oq, m, cp, zs, rfl, hO9, unhide HZ⟩, hb9⟩
end Go.Proofs.YtcjnhhbcleljmaaGreatDoor.Sb
namespace Go.Proofs.YtcjnhhbcleljmaaGreatDoor.Sb
open Go.RowKit
open V

set_option maxHeartbeats 4000000 in
set_option maxRecDepth 100000 in
theorem freadP_arg (a : Option Addr) (n c : Nat) (i : Int) (w : World) (H : i < 0 ∨ (n : Int) < i) :
    Calls Tryz.prog 28 #[.slice a n c, .int .i64 i] w fun e w' => e = .returned (.tuple #[aggP zeroPz, .int .i64 0, .int .i64 1]) ∧ Below w.heap.size w w' := by
  have hb0 := below_new w zP
  have C0 := PB.new (v0 := .string ⟨#[]⟩) (v1 := .string ⟨#[]⟩) (v2 := .slice none 0 0) (v3 := .slice none 0 0) w
  have CF := four_p C0 (.string ⟨#[]⟩) (.string ⟨#[]⟩) (.slice none 0 0) (.slice none 0 0)
  have hbF : Below w.heap.size w (four (w.alloc zP) w.heap.size (.string ⟨#[]⟩) (.string ⟨#[]⟩) (.slice none 0 0) (.slice none 0 0)) := (((hb0.setCell (p := ⟨w.heap.size, 0, none⟩) (Nat.le_refl _) _).setCell (p := ⟨w.heap.size, 1, none⟩) (Nat.le_refl _) _).setCell (p := ⟨w.heap.size, 2, none⟩) (Nat.le_refl _) _).setCell (p := ⟨w.heap.size, 3, none⟩) (Nat.le_refl _) _
  obtain ⟨t0, t1, t2, t3⟩ : _ ∧ _ ∧ _ ∧ _ := ⟨CF.c0, CF.c1, CF.c2, CF.c3⟩
  obtain ⟨z0, z1, z2, z3⟩ : _ ∧ _ ∧ _ ∧ _ := ⟨C0.c0, C0.c1, C0.c2, C0.c3⟩
  obtain ⟨f0, f1, f2, f3⟩ : _ ∧ _ ∧ _ ∧ _ := ⟨C0.fz 0, C0.fz 1, C0.fz 2, C0.fz 3⟩
  clear CF C0
  rcases H with H | H
  · have d1 : decide (i < 0) = true := decide_eq_true H
    go_enter Tryz.func28, Tryz.ntmps28
    go_wp2_with fail
    refine bodyPost_ret (v := .tuple #[aggP zeroPz, .int .i64 0, .int .i64 1]) (by simp [results, Tryz.results28, go_sem]) rfl ?_
    first | exact ⟨rfl, hbF⟩ | exact ⟨rfl, hb0⟩
  · have d0 : ¬ i < 0 := by omega
    have d1 : decide ((n : Int) < i) = true := decide_eq_true H
    go_enter Tryz.func28, Tryz.ntmps28
    go_wp2_with fail
    refine bodyPost_ret (v := .tuple #[aggP zeroPz, .int .i64 0, .int .i64 1]) (by simp [results, Tryz.results28, go_sem]) rfl ?_
    first | exact ⟨rfl, hbF⟩ | exact ⟨rfl, hb0⟩
theorem Pz.Own.four {p : Pz} {w : World} {B g : Nat} (h : p.Own w B) (hg : g < B) (x0 x1 x2 x3 : Value) : p.Own (Sb.four w g x0 x1 x2 x3) B := ⟨own_four h.t hg x0 x1 x2 x3, (((h.z.low hg x0).low hg x1).low hg x2).low hg x3⟩
/-- What is read is not too long to be told right or wrong. -/
theorem light_pat {z : Pz} {x : Pp} {w : World} {B : Nat} (ho : z.Own w B) (h : z.pl = cutP x) (hn : nameB x.1 = true) : z.Light ∧ z.nl ≤ 41 ∧ z.tm ≤ 5 := by
  have e1 : z.n.data.toList = x.1 := congrArg (fun y => y.1) h
  have e2 : z.tn.data.toList = (cutA x.2.1).1 := congrArg (fun y => y.2.1.1) h
  have e4 : z.ts = (cutA x.2.1).2 := congrArg (fun y => y.2.1.2) h
  have e3 : z.zs.map Nz.pl = cutL x.2.2 := congrArg (fun y => y.2.2) h
  obtain ⟨a1, a2, a3⟩ := cutA_light x.2.1
  have l1 := Lies.len ho.lies.t
  have l2 := len_cut ho.lies.z e3
  have hz := light_cut ho.lies.z e3
  refine ⟨⟨?_, ?_, ?_, ?_, by omega, hz⟩, l2, by rw [l1, e4]; exact a2⟩
  · rw [size_len, e1]; have := name_short hn; omega
  · rw [size_len, e2]; omega
  · rw [l1, e4]; omega
  · rw [e4]; exact a3
/-- What formula.ReadPattern answers. -/
def ReadPE (w : World) (r : Except Nat (Pp × Nat)) (e : Ending) (w' : World) : Prop := match r with
  | .ok x => (∃ z : Pz, e = .returned (.tuple #[aggP z, .int .i64 x.2, .int .i64 0]) ∧ z.Own w' w.heap.size ∧ z.pl = x.1) ∧ Below w.heap.size w w'
  | .error q => e = .returned (.tuple #[aggP zeroPz, .int .i64 q, .int .i64 7]) ∧ Below w.heap.size w w'
set_option maxHeartbeats 8000000 in
set_option maxRecDepth 100000 in
theorem freadP_any (a : Option Addr) (n c : Nat) (xs : List Tm) (p : Nat) (r : Except Nat (Pp × Nat)) (w : World) (G : Sg w a n c xs) (hw : Wd w) (hp : p ≤ n) (H : Hid (readP (xs.map ktm) p = r)) :
    Calls Tryz.prog 28 #[.slice a n c, .int .i64 (p : Int)] w fun e w' => ReadPE w r e w' := by
  have hlen := G.len
  have d0 : ¬ (p : Int) < 0 := by omega
  have d1 : ¬ n < p := by omega
  obtain ⟨rx, hrx⟩ : ∃ rx, patF (xs.map ktm) p = rx := ⟨_, rfl⟩
  have HR := unhide H
  unfold readP at HR
  rw [hrx] at HR
  have HRR := hide HR
  clear H HR
  have hb0 := below_new w zP
  have C0 := PB.new (v0 := .string ⟨#[]⟩) (v1 := .string ⟨#[]⟩) (v2 := .slice none 0 0) (v3 := .slice none 0 0) w
  have hb1 := hb0.alloc hb0.size (.cells #[.slice a n c, .int .i64 (p : Int), .slice none 0 0, .slice none 0 0] 115)
  have R1 : Fdr w ((w.alloc zP).alloc (.cells #[.slice a n c, .int .i64 (p : Int), .slice none 0 0, .slice none 0 0] 115)) (w.heap.size + 1) a n c p (.slice none 0 0) (.slice none 0 0) := ⟨hb1, by omega, by
    have := heap_alloc_new (w.alloc zP) (.cells #[.slice a n c, .int .i64 (p : Int), .slice none 0 0, .slice none 0 0] 115)
    rwa [show (w.alloc zP).heap.size = w.heap.size + 1 by simp] at this, hp⟩
  have C1 := C0.on (below_new (w.alloc zP) (.cells #[.slice a n c, .int .i64 (p : Int), .slice none 0 0, .slice none 0 0] 115))
  have hs1 : ((w.alloc zP).alloc (.cells #[.slice a n c, .int .i64 (p : Int), .slice none 0 0, .slice none 0 0] 115)).heap.size = w.heap.size + 2 := by simp
  clear C0 hb0
  go_enter Tryz.func28, Tryz.ntmps28
  go_wp2_with fail
  have hsz : ((w.alloc zP).alloc (.cells #[.slice a n c, .int .i64 (p : Int), .slice none 0 0, .slice none 0 0] 115)).heap.size = w.heap.size + 2 := hs1
  generalize (w.alloc zP).alloc (.cells #[.slice a n c, .int .i64 (p : Int), .slice none 0 0, .slice none 0 0] 115) = W1 at hb1 R1 C1 hsz ⊢
  clear hs1
  have F := rpattern_any G hw rx W1 R1 (hide hrx)
  have hne : w.heap.size ≠ w.heap.size + 1 := by omega
  have hfB : ∀ {W : World} (h : Below w.heap.size w W) (x0 x1 x2 x3 : Value), Below w.heap.size w (four W w.heap.size x0 x1 x2 x3) := fun h x0 x1 x2 x3 => (((h.setCell (p := ⟨w.heap.size, 0, none⟩) (Nat.le_refl _) x0).setCell (p := ⟨w.heap.size, 1, none⟩) (Nat.le_refl _) x1).setCell (p := ⟨w.heap.size, 2, none⟩) (Nat.le_refl _) x2).setCell (p := ⟨w.heap.size, 3, none⟩) (Nat.le_refl _) x3
  rcases rx with q | ⟨v, q⟩
  · have HE : Hid (r = .error q) := hide (unhide HRR).symm
    clear HRR hrx
    refine F.mono ?_
    rintro e W2 ⟨rfl, ⟨nv, ov, R2⟩, hta⟩
    have hb2 : Below w.heap.size w W2 := hta.below hb1 (Nat.le_succ _) hb1.size
    have C2 := C1.turn hta hne
    have R3 := four_f R2 (Nat.le_refl w.heap.size) hne (.string ⟨#[]⟩) (.string ⟨#[]⟩) (.slice none 0 0) (.slice none 0 0)
    have C3 := four_p C2 (.string ⟨#[]⟩) (.string ⟨#[]⟩) (.slice none 0 0) (.slice none 0 0)
    have hb3 := hfB hb2 (.string ⟨#[]⟩) (.string ⟨#[]⟩) (.slice none 0 0) (.slice none 0 0)
    obtain ⟨z0, z1, z2, z3⟩ : _ ∧ _ ∧ _ ∧ _ := ⟨C2.c0, C2.c1, C2.c2, C2.c3⟩
    obtain ⟨f0, f1, f2, f3⟩ : _ ∧ _ ∧ _ ∧ _ := ⟨C2.fz 0, C2.fz 1, C2.fz 2, C2.fz 3⟩
    unfold four at C3 hb3 R3
    clear F C1 R1 hta hb1 C2 R2
    go_wp2_with fail
    clear z0 z1 z2 z3 f0 f1 f2 f3
    generalize (((W2.setCell ⟨w.heap.size, 0, none⟩ (.string ⟨#[]⟩)).setCell ⟨w.heap.size, 1, none⟩ (.string ⟨#[]⟩)).setCell ⟨w.heap.size, 2, none⟩ (.slice none 0 0)).setCell ⟨w.heap.size, 3, none⟩ (.slice none 0 0) = W3 at R3 C3 hb3 ⊢
    have hb5 := (hfB hb3 (.string ⟨#[]⟩) (.string ⟨#[]⟩) (.slice none 0 0) (.slice none 0 0)).drew
    unfold four at hb5
    obtain ⟨z0, z1, z2, z3⟩ : _ ∧ _ ∧ _ ∧ _ := ⟨C3.c0, C3.c1, C3.c2, C3.c3⟩
    obtain ⟨f0, f1, f2, f3⟩ : _ ∧ _ ∧ _ ∧ _ := ⟨C3.fz 0, C3.fz 1, C3.fz 2, C3.fz 3⟩
    have r1 := R3.c1
    clear C3 R3 hfB
    go_region
    all_goals
      go_wp2_with fail
      refine bodyPost_ret (v := .tuple #[aggP zeroPz, .int .i64 q, .int .i64 7]) (by simp [results, Tryz.results28, go_sem, z0, z1, z2, z3]) rfl ?_
      rw [unhide HE]
      exact ⟨rfl, hb5⟩
  · obtain ⟨n2, n1⟩ := pat_facts hrx
    refine F.mono ?_
    rintro e W2 ⟨⟨z, rfl, ho, hpl⟩, ⟨nv, ov, R2⟩, hta⟩
    simp only at R2 hpl n1 n2
    have hb2 : Below w.heap.size w W2 := hta.below hb1 (Nat.le_succ _) hb1.size
    have C2 := C1.turn hta hne
    obtain ⟨hs, _, _⟩ := light_pat ho hpl n1
    have ho1 : z.Own W2 (w.heap.size + 1) := ho.mono (by omega)
    have ho3 := ho1.four (Nat.lt_succ_self _) (.string z.n) (.string z.tn) (.slice z.ta z.tm z.tc) (.slice z.na z.nl z.nc)
    have R3 := four_f R2 (Nat.le_refl w.heap.size) hne (.string z.n) (.string z.tn) (.slice z.ta z.tm z.tc) (.slice z.na z.nl z.nc)
    have C3 := four_p C2 (.string z.n) (.string z.tn) (.slice z.ta z.tm z.tc) (.slice z.na z.nl z.nc)
    have hb3 := hfB hb2 (.string z.n) (.string z.tn) (.slice z.ta z.tm z.tc) (.slice z.na z.nl z.nc)
    obtain ⟨z0, z1, z2, z3⟩ : _ ∧ _ ∧ _ ∧ _ := ⟨C2.c0, C2.c1, C2.c2, C2.c3⟩
    obtain ⟨f0, f1, f2, f3⟩ : _ ∧ _ ∧ _ ∧ _ := ⟨C2.fz 0, C2.fz 1, C2.fz 2, C2.fz 3⟩
    have HPL := hide hpl
    have HFN := hide n2
    obtain ⟨t0, t1, t2, t3⟩ : _ ∧ _ ∧ _ ∧ _ := ⟨C3.c0, C3.c1, C3.c2, C3.c3⟩
    clear F C1 R1 hta hb1 ho ho1 n1 n2 hpl hrx C2 R2
    go_wp2_with fail
    clear z0 z1 z2 z3 f0 f1 f2 f3 t0 t1 t2 t3
    unfold four at ho3 R3 C3 hb3
    generalize (((W2.setCell ⟨w.heap.size, 0, none⟩ (.string z.n)).setCell ⟨w.heap.size, 1, none⟩ (.string z.tn)).setCell ⟨w.heap.size, 2, none⟩ (.slice z.ta z.tm z.tc)).setCell ⟨w.heap.size, 3, none⟩ (.slice z.na z.nl z.nc) = W3 at ho3 R3 C3 hb3 ⊢
    cases hv : rightP v with
    | true =>
      have HE : Hid (r = .ok (v, q)) := hide (by
        rw [← unhide HRR]
        first | (rw [hv]; rfl) | (show (if rightP v = true then _ else _) = _; rw [hv]; rfl))
      have HC := hide (cutP_same (unhide HFN) hv)
      refine (fisRight_any z true W3 ho3.lies hs (hide (by rw [unhide HPL, cutP_right (unhide HFN), hv]))).mono ?_
      rintro e W4 ⟨rfl, hb4⟩
      have ho4 := ho3.on hb4
      have R4 := R3.on hb4
      have C4 := C3.on hb4
      have hb5 := bt hb3 hb4
      clear ho3 R3 C3 hb3 hb4 hs HRR hv
      have hb6 := (hfB hb5 (.string z.n) (.string z.tn) (.slice z.ta z.tm z.tc) (.slice z.na z.nl z.nc)).drew
      have ho5 := ((ho4.four (Nat.lt_succ_self _) (.string z.n) (.string z.tn) (.slice z.ta z.tm z.tc) (.slice z.na z.nl z.nc)).mono (B' := w.heap.size) (by omega)).on (Below.refl _ _).drew
      unfold four at hb6 ho5
      obtain ⟨z0, z1, z2, z3⟩ : _ ∧ _ ∧ _ ∧ _ := ⟨C4.c0, C4.c1, C4.c2, C4.c3⟩
      obtain ⟨f0, f1, f2, f3⟩ : _ ∧ _ ∧ _ ∧ _ := ⟨C4.fz 0, C4.fz 1, C4.fz 2, C4.fz 3⟩
      have r1 := R4.c1
      clear C4 R4 ho4 hfB
      go_wp2_with fail
      go_region
      all_goals
        go_wp2_with fail
        refine bodyPost_ret (v := .tuple #[aggP z, .int .i64 q, .int .i64 0]) (by simp [results, Tryz.results28, go_sem, z0, z1, z2, z3]) rfl ?_
        rw [unhide HE]
        exact ⟨⟨z, rfl, ho5, (unhide HPL).trans (unhide HC)⟩, hb6⟩
    | false =>
      have HE : Hid (r = .error p) := hide (by
        rw [← unhide HRR]
        first | (rw [hv]; rfl) | (show (if rightP v = true then _ else _) = _; rw [hv]; rfl))
      refine (fisRight_any z false W3 ho3.lies hs (hide (by rw [unhide HPL, cutP_right (unhide HFN), hv]))).mono ?_
      rintro e W4 ⟨rfl, hb4⟩
      have C4 := C3.on hb4
      have hb5 := bt hb3 hb4
      clear ho3 R3 C3 hb3 hb4 hs HRR hv
      have C5 := four_p C4 (.string ⟨#[]⟩) (.string ⟨#[]⟩) (.slice none 0 0) (.slice none 0 0)
      have hb6 := hfB hb5 (.string ⟨#[]⟩) (.string ⟨#[]⟩) (.slice none 0 0) (.slice none 0 0)
      obtain ⟨t0, t1, t2, t3⟩ : _ ∧ _ ∧ _ ∧ _ := ⟨C5.c0, C5.c1, C5.c2, C5.c3⟩
      obtain ⟨z0, z1, z2, z3⟩ : _ ∧ _ ∧ _ ∧ _ := ⟨C4.c0, C4.c1, C4.c2, C4.c3⟩
      obtain ⟨f0, f1, f2, f3⟩ : _ ∧ _ ∧ _ ∧ _ := ⟨C4.fz 0, C4.fz 1, C4.fz 2, C4.fz 3⟩
      clear C4 C5 hfB
      go_wp2_with fail
      refine bodyPost_ret (v := .tuple #[aggP zeroPz, .int .i64 p, .int .i64 7]) (by simp [results, Tryz.results28, go_sem, t0, t1, t2, t3]) rfl ?_
      rw [unhide HE]
      exact ⟨rfl, hb6⟩
end Go.Proofs.YtcjnhhbcleljmaaGreatDoor.Sb

/- What atoms.doingAt, signAt answer. -/
import Derived.Test.YtcjnhhbcleljmaaGreatDoorAtA
namespace Go.Proofs.YtcjnhhbcleljmaaGreatDoor.Sb
open Go.RowKit
open V

/-- What is done by the mark at a place. -/
def opAt (xs : List Tm) (p : Nat) : Option Int := match xs[p]? with
  | some x => opK (ktm x)
  | none => none
theorem opAt_is (xs : List Tm) (p : Nat) : opAt xs p = if isM xs p ⟨#[43]⟩ = true then some 3 else if isM xs p ⟨#[45]⟩ = true then some 4 else if isM xs p ⟨#[42]⟩ = true then some 5 else none := by
  unfold opAt
  simp only [isM_kt, List.getElem?_map]
  cases h : xs[p]? with
  | none => simp
  | some x =>
    simp only [Option.map_some, Option.some.injEq, decide_eq_true_eq]
    rfl
/-- The answer: its kind, and whether. -/
def opV : Option Int → Value
  | some k => .tuple #[.int .i64 k, .bool true]
  | none => .tuple #[.int .i64 0, .bool false]
theorem kin0 (w : World) : (Instr.index 268 (Value.agg #[Value.int IntKind.i64 3, Value.int IntKind.i64 4, Value.int IntKind.i64 5]) (.int .i64 0)).run Tryz.prog w = .ok (Value.int .i64 3) w := by kernel_rfl
theorem kin1 (w : World) : (Instr.index 268 (Value.agg #[Value.int IntKind.i64 3, Value.int IntKind.i64 4, Value.int IntKind.i64 5]) (.int .i64 1)).run Tryz.prog w = .ok (Value.int .i64 4) w := by kernel_rfl
theorem kin2 (w : World) : (Instr.index 268 (Value.agg #[Value.int IntKind.i64 3, Value.int IntKind.i64 4, Value.int IntKind.i64 5]) (.int .i64 2)).run Tryz.prog w = .ok (Value.int .i64 5) w := by kernel_rfl
set_option maxHeartbeats 2000000 in
set_option maxRecDepth 100000 in
theorem doing_any (a : Option Addr) (n c : Nat) (xs : List Tm) (p : Nat) (v : Value) (w : World) (hl : LiesT w a n c xs) (H : Hid (opV (opAt xs p) = v)) :
    Calls Tryz.prog 223 #[.slice a n c, .int .i64 (p : Int)] w fun e w' => e = .returned v ∧ w' = w := by
  obtain ⟨b0, H0⟩ : ∃ b, Hid (isM xs p ⟨#[43]⟩ = b) := ⟨_, hide rfl⟩
  obtain ⟨b1, H1⟩ : ∃ b, Hid (isM xs p ⟨#[45]⟩ = b) := ⟨_, hide rfl⟩
  obtain ⟨b2, H2⟩ : ∃ b, Hid (isM xs p ⟨#[42]⟩ = b) := ⟨_, hide rfl⟩
  have HM : Hid (opV (if b0 = true then some 3 else if b1 = true then some 4 else if b2 = true then some 5 else none) = v) := by
    refine hide ?_
    rw [← unhide H, opAt_is, unhide H0, unhide H1, unhide H2]
  clear H
  go_enter Tryz.func223, Tryz.ntmps223
  go_wp2_with fail
  go_loop [9] (fun c => ∃ k : Nat, k ≤ 3 ∧ c = .int .i64 k ∧ Hid ((1 ≤ k → b0 = false) ∧ (2 ≤ k → b1 = false) ∧ (3 ≤ k → b2 = false))) (fun c => 3 - (intOf c).toNat)
  case atStart => exact ⟨0, by omega, rfl, hide ⟨by omega, by omega, by omega⟩⟩
  case round =>
    obtain ⟨k, hk, rfl, HB⟩ := hrel
    rcases (show k = 0 ∨ k = 1 ∨ k = 2 ∨ k = 3 by omega) with rfl | rfl | rfl | rfl
    · clear H1 H2
      cases b0
      · go_wp2_with fail
        rw [kin0]
        simp only [Result.andThen]
        rw [Oper.upon_value]
        go_wp2_with (first
          | (go_at_call 192; refine (amark_any 3 ⟨#[43]⟩ _ (hide rfl)).mono ?_; rintro e w' ⟨rfl, rfl⟩)
          | (go_at_call 220; refine (isMark_any _ _ _ _ _ _ _ _ hl H0).mono ?_; rintro e w' ⟨rfl, rfl⟩))
        go_round
        case rel => exact ⟨1, by omega, by go_num, hide ⟨by simp, by omega, by omega⟩⟩
        case measure => simp [intOf]
      · go_wp2_with fail
        rw [kin0]
        simp only [Result.andThen]
        rw [Oper.upon_value]
        go_wp2_with (first
          | (go_at_call 192; refine (amark_any 3 ⟨#[43]⟩ _ (hide rfl)).mono ?_; rintro e w' ⟨rfl, rfl⟩)
          | (go_at_call 220; refine (isMark_any _ _ _ _ _ _ _ _ hl H0).mono ?_; rintro e w' ⟨rfl, rfl⟩))
        refine bodyPost_ret (v := .tuple #[.int .i64 3, .bool true]) (by simp [results, Tryz.results223, go_sem]) rfl ⟨by rw [← unhide HM]; rfl, rfl⟩
    · obtain ⟨x0, -, -⟩ := unhide HB
      have x0 := x0 (by omega)
      subst x0
      clear H0 H2
      cases b1
      · go_wp2_with fail
        rw [kin1]
        simp only [Result.andThen]
        rw [Oper.upon_value]
        go_wp2_with (first
          | (go_at_call 192; refine (amark_any 4 ⟨#[45]⟩ _ (hide rfl)).mono ?_; rintro e w' ⟨rfl, rfl⟩)
          | (go_at_call 220; refine (isMark_any _ _ _ _ _ _ _ _ hl H1).mono ?_; rintro e w' ⟨rfl, rfl⟩))
        go_round
        case rel => exact ⟨2, by omega, by go_num, hide ⟨by simp, by simp, by omega⟩⟩
        case measure => simp [intOf]
      · go_wp2_with fail
        rw [kin1]
        simp only [Result.andThen]
        rw [Oper.upon_value]
        go_wp2_with (first
          | (go_at_call 192; refine (amark_any 4 ⟨#[45]⟩ _ (hide rfl)).mono ?_; rintro e w' ⟨rfl, rfl⟩)
          | (go_at_call 220; refine (isMark_any _ _ _ _ _ _ _ _ hl H1).mono ?_; rintro e w' ⟨rfl, rfl⟩))
        refine bodyPost_ret (v := .tuple #[.int .i64 4, .bool true]) (by simp [results, Tryz.results223, go_sem]) rfl ⟨by rw [← unhide HM]; rfl, rfl⟩
    · obtain ⟨x0, x1, -⟩ := unhide HB
      have x0 := x0 (by omega)
      have x1 := x1 (by omega)
      subst x0 x1
      clear H0 H1
      cases b2
      · go_wp2_with fail
        rw [kin2]
        simp only [Result.andThen]
        rw [Oper.upon_value]
        go_wp2_with (first
          | (go_at_call 192; refine (amark_any 5 ⟨#[42]⟩ _ (hide rfl)).mono ?_; rintro e w' ⟨rfl, rfl⟩)
          | (go_at_call 220; refine (isMark_any _ _ _ _ _ _ _ _ hl H2).mono ?_; rintro e w' ⟨rfl, rfl⟩))
        go_round
        case rel => exact ⟨3, by omega, by go_num, hide ⟨by simp, by simp, by simp⟩⟩
        case measure => simp [intOf]
      · go_wp2_with fail
        rw [kin2]
        simp only [Result.andThen]
        rw [Oper.upon_value]
        go_wp2_with (first
          | (go_at_call 192; refine (amark_any 5 ⟨#[42]⟩ _ (hide rfl)).mono ?_; rintro e w' ⟨rfl, rfl⟩)
          | (go_at_call 220; refine (isMark_any _ _ _ _ _ _ _ _ hl H2).mono ?_; rintro e w' ⟨rfl, rfl⟩))
        refine bodyPost_ret (v := .tuple #[.int .i64 5, .bool true]) (by simp [results, Tryz.results223, go_sem]) rfl ⟨by rw [← unhide HM]; rfl, rfl⟩
    · obtain ⟨x0, x1, x2⟩ := unhide HB
      have x0 := x0 (by omega)
      have x1 := x1 (by omega)
      have x2 := x2 (by omega)
      subst x0 x1 x2
      go_wp2_with fail
      refine bodyPost_ret (v := .tuple #[.int .i64 0, .bool false]) (by simp [results, Tryz.results223, go_sem]) rfl ⟨by rw [← unhide HM]; rfl, rfl⟩

theorem ne_f {a b : Int} (h : a = b) : (a != b) = false := by simp [h]
theorem ne_t {a b : Int} (h : a ≠ b) : (a != b) = true := by simp [h]
/-- A box of four cells, none frozen. -/
structure B4 (W : World) (b : Nat) (v0 v1 v2 v3 : Value) (T : TypeId) : Prop where
  at_ : W.heap[b]? = some (.cells #[v0, v1, v2, v3] T)
theorem B4.lt {W : World} {b : Nat} {v0 v1 v2 v3 : Value} {T : TypeId} (h : B4 W b v0 v1 v2 v3 T) : b < W.heap.size := (Array.getElem?_eq_some_iff.1 h.at_).1
theorem B4.on {W W' : World} {b : Nat} {v0 v1 v2 v3 : Value} {T : TypeId} (h : B4 W b v0 v1 v2 v3 T) (hb : Below W.heap.size W W') : B4 W' b v0 v1 v2 v3 T := ⟨(hb.block b h.lt).trans h.at_⟩
theorem B4.cells {W : World} {b : Nat} {v0 v1 v2 v3 : Value} {T : TypeId} (h : B4 W b v0 v1 v2 v3 T) : W.cell? ⟨b, 0, none⟩ = some v0 ∧ W.cell? ⟨b, 1, none⟩ = some v1 ∧ W.cell? ⟨b, 2, none⟩ = some v2 ∧ W.cell? ⟨b, 3, none⟩ = some v3 := by
  refine ⟨?_, ?_, ?_, ?_⟩ <;> (rw [Lib.cell_of_heap h.at_]; rfl)
theorem B4.free {W : World} {b : Nat} {v0 v1 v2 v3 : Value} {T : TypeId} (h : B4 W b v0 v1 v2 v3 T) : W.frozen? ⟨b, 0, none⟩ = false ∧ W.frozen? ⟨b, 1, none⟩ = false ∧ W.frozen? ⟨b, 2, none⟩ = false ∧ W.frozen? ⟨b, 3, none⟩ = false :=
  ⟨Lib.frozen_of_heap h.at_ 0, Lib.frozen_of_heap h.at_ 1, Lib.frozen_of_heap h.at_ 2, Lib.frozen_of_heap h.at_ 3⟩
theorem B4.new (w : World) (v0 v1 v2 v3 : Value) (T : TypeId) : B4 (w.alloc (.cells #[v0, v1, v2, v3] T)) w.heap.size v0 v1 v2 v3 T := ⟨heap_alloc_new w _⟩
theorem below4 {B : Nat} {w W : World} (h : Below B w W) {b : Nat} (hb : B ≤ b) (v0 v1 v2 v3 : Value) : Below B w ((((W.setCell ⟨b, 0, none⟩ v0).setCell ⟨b, 1, none⟩ v1).setCell ⟨b, 2, none⟩ v2).setCell ⟨b, 3, none⟩ v3) :=
  (((h.setCell (p := ⟨b, 0, none⟩) hb _).setCell (p := ⟨b, 1, none⟩) hb _).setCell (p := ⟨b, 2, none⟩) hb _).setCell (p := ⟨b, 3, none⟩) hb _
abbrev zeroTk : Value := .agg #[.int .i64 0, .string ⟨#[]⟩, .int .i64 0, .int .i64 0]
abbrev objTk : Obj := .cells #[.int .i64 0, .string ⟨#[]⟩, .int .i64 0, .int .i64 0] 89
abbrev objPos (a b : Int) : Obj := .cells #[.int .i64 a, .int .i64 b] 66
/-- What a sign's own text comes to, where it is not the sign alone. -/
theorem solo_no {x : Tm} {u : Tk} (h : soloB (ktm x) = false) (hx : lexA rightK x.2.1.data.toList 0 = .ok [u]) : u.1 ≠ x.1 ∨ (u.1 = x.1 ∧ (⟨u.2.1.toArray⟩ : ByteArray) ≠ x.2.1) := by
  by_cases h1 : u.1 = x.1
  · refine Or.inr ⟨h1, fun e => ?_⟩
    unfold soloB ktm at h
    rw [hx] at h
    simp [h1, ← e] at h
  · exact Or.inl h1

set_option maxHeartbeats 4000000 in
set_option maxRecDepth 100000 in
theorem sign_none (a : Option Addr) (n c : Nat) (xs : List Tm) (p : Nat) (w : World) (he : Env w) (hl : LiesT w a n c xs) (hz : ∀ x ∈ xs, x.2.1.size ≤ 20000) (H : Hid (∀ x, xs[p]? = some x → soloB (ktm x) = false)) :
    Calls Tryz.prog 225 #[.slice a n c, .int .i64 (p : Int)] w fun e w' => e = .returned (.tuple #[zeroTk, .bool false]) ∧ Below w.heap.size w w' := by
  have hn := hl.len
  have hb0 : Below w.heap.size w (w.alloc objTk) := (Below.refl _ _).alloc (Nat.le_refl _) _
  have B0 := B4.new w (.int .i64 0) (.string ⟨#[]⟩) (.int .i64 0) (.int .i64 0) 89
  by_cases hp : p < xs.length
  · obtain ⟨b, o, ha, hbl, c0', c1', -, -⟩ := hl.row.up hp
    have c0 := cell_on hb0 c0'
    have c1 := cell_on hb0 c1'
    subst ha
    have hi := unhide H xs[p] (List.getElem?_eq_getElem hp)
    have hzz := hz xs[p] (List.getElem_mem hp)
    have i0 : (0 : Int) ≤ (p : Int) := by omega
    have i1 : (p : Int) < (n : Int) := by omega
    have i2 : ¬ n ≤ p := by omega
    generalize xs[p] = x at c0 c1 hi hzz c0' c1'
    clear H hl hn hp hz c0' c1'
    cases hx : lexA rightK x.2.1.data.toList 0 with
    | error q =>
      have HX := hide hx
      obtain ⟨pa, pb, hpp⟩ : ∃ pa pb, posL x.2.1.data.toList q = (pa, pb) := ⟨_, _, rfl⟩
      have HP := hide hpp
      clear hx hpp hi
      go_enter Tryz.func225, Tryz.ntmps225
      go_wp2_with fail
      refine (lex_err x.2.1 q pa pb _ hzz (he.on hb0) HX HP).mono ?_
      rintro e w1 ⟨rfl, hb1⟩
      have hbx : Below w1.heap.size w1 (w1.alloc (objPos pa pb)) := (Below.refl _ _).alloc (Nat.le_refl _) _
      have B2 := (B0.on hb1).on hbx
      obtain ⟨z0, z1, z2, z3⟩ := B2.cells
      obtain ⟨f0, f1, f2, f3⟩ := B2.free
      have hbw := bt (bt hb0 hb1) hbx
      clear c0 c1 B0 B2
      go_wp2_with fail
      go_quiet (fail)
      go_wp2_with fail
      refine bodyPost_ret (v := .tuple #[zeroTk, .bool false]) (by simp [results, Tryz.results225, go_sem, z0, z1, z2, z3]) rfl ?_
      exact ⟨rfl, below4 (below_drewN hbw nq) (Nat.le_refl _) _ _ _ _⟩
    | ok ts =>
      have HX := hide hx
      clear hx
      by_cases h1 : ts.length = 1
      · obtain ⟨u, rfl⟩ : ∃ u, ts = [u] := by
          match ts, h1 with
          | [u], _ => exact ⟨u, rfl⟩
        have hq := solo_no hi (unhide HX)
        clear hi h1
        have F : Hid (∀ (W : World), Env W → Calls Tryz.prog 41 #[.string x.2.1] W fun e w' => (∃ (b' o' cc : Nat), e = .returned (.tuple #[.slice (some ⟨b', o', none⟩) 1 cc, .agg #[.int .i64 0, .int .i64 0], .int .i64 0]) ∧ w'.cell? ⟨b', o', none⟩ = some (.int .i64 u.1) ∧ w'.cell? ⟨b', o' + 1, none⟩ = some (.string ⟨u.2.1.toArray⟩)) ∧ Below W.heap.size W w') := by
          refine hide (fun W heW => (lex_ok x.2.1 [u] _ _ hzz heW HX (hide rfl)).mono ?_)
          rintro e w1 ⟨⟨a', m, cc, rfl, hl⟩, hb1⟩
          have hm : m = 1 := hl.len
          subst hm
          obtain ⟨b', o', ha', hbl', d0, d1, -⟩ := hl.row.up (i := 0) (by simp)
          subst ha'
          refine ⟨⟨b', o', cc, rfl, ?_, ?_⟩, hb1⟩
          · simpa [tm] using d0
          · simpa [tm] using d1
        rcases hq with h2 | ⟨h2, h3⟩
        · have d2 := ne_t h2
          clear h2
          go_enter Tryz.func225, Tryz.ntmps225
          go_wp2_with fail
          refine (unhide F _ (he.on hb0)).mono ?_
          rintro e w1 ⟨⟨b', o', cc, rfl, d0, d1⟩, hb1⟩
          have hbx : Below w1.heap.size w1 (w1.alloc (objPos 0 0)) := (Below.refl _ _).alloc (Nat.le_refl _) _
          have x0 := cell_on hbx (cell_on hb1 c0)
          have x1 := cell_on hbx (cell_on hb1 c1)
          have y0 := cell_on hbx d0
          have y1 := cell_on hbx d1
          have B2 := (B0.on hb1).on hbx
          obtain ⟨z0, z1, z2, z3⟩ := B2.cells
          obtain ⟨f0, f1, f2, f3⟩ := B2.free
          have hbw := bt (bt hb0 hb1) hbx
          clear c0 c1 d0 d1 B0 B2
          go_wp2_with fail
          go_quiet (fail)
          go_wp2_with fail
          refine bodyPost_ret (v := .tuple #[zeroTk, .bool false]) (by simp [results, Tryz.results225, go_sem, z0, z1, z2, z3]) rfl ?_
          exact ⟨rfl, below4 (below_drewN hbw nq) (Nat.le_refl _) _ _ _ _⟩
        · have d2 := ne_f h2
          obtain ⟨z, hz⟩ : ∃ z : ByteArray, z = ⟨u.2.1.toArray⟩ := ⟨_, rfl⟩
          rw [← hz] at h3
          have d3 := str_f h3
          clear h2 h3
          go_enter Tryz.func225, Tryz.ntmps225
          go_wp2_with fail
          refine (unhide F _ (he.on hb0)).mono ?_
          rintro e w1 ⟨⟨b', o', cc, rfl, d0, d1⟩, hb1⟩
          rw [← hz] at d1
          clear hz F
          have hbx : Below w1.heap.size w1 (w1.alloc (objPos 0 0)) := (Below.refl _ _).alloc (Nat.le_refl _) _
          have x0 := cell_on hbx (cell_on hb1 c0)
          have x1 := cell_on hbx (cell_on hb1 c1)
          have y0 := cell_on hbx d0
          have y1 := cell_on hbx d1
          have B2 := (B0.on hb1).on hbx
          obtain ⟨z0, z1, z2, z3⟩ := B2.cells
          obtain ⟨f0, f1, f2, f3⟩ := B2.free
          have hbw := bt (bt hb0 hb1) hbx
          clear c0 c1 d0 d1 B0 B2
          go_wp2_with fail
          go_quiet (fail)
          go_wp2_with fail
          refine bodyPost_ret (v := .tuple #[zeroTk, .bool false]) (by simp [results, Tryz.results225, go_sem, z0, z1, z2, z3]) rfl ?_
          exact ⟨rfl, below4 (below_drewN hbw nq) (Nat.le_refl _) _ _ _ _⟩
      · have d1 : ((ts.length : Int) != 1) = true := by simp; omega
        have hsz := (lex_few (unhide HX)).1
        rw [size_list] at hsz
        clear hi h1
        go_enter Tryz.func225, Tryz.ntmps225
        go_wp2_with fail
        refine (lex_ok x.2.1 ts _ _ hzz (he.on hb0) HX (hide rfl)).mono ?_
        rintro e w1 ⟨⟨a', m, cc, rfl, hl⟩, hb1⟩
        have hm : m = ts.length := by rw [hl.len, List.length_map]
        subst hm
        have hbx : Below w1.heap.size w1 (w1.alloc (objPos 0 0)) := (Below.refl _ _).alloc (Nat.le_refl _) _
        have B2 := (B0.on hb1).on hbx
        obtain ⟨z0, z1, z2, z3⟩ := B2.cells
        obtain ⟨f0, f1, f2, f3⟩ := B2.free
        have hbw := bt (bt hb0 hb1) hbx
        clear c0 c1 hl B0 B2
        go_wp2_with fail
        go_quiet (fail)
        go_wp2_with fail
        refine bodyPost_ret (v := .tuple #[zeroTk, .bool false]) (by simp [results, Tryz.results225, go_sem, z0, z1, z2, z3]) rfl ?_
        exact ⟨rfl, below4 (below_drewN hbw nq) (Nat.le_refl _) _ _ _ _⟩
  · have i2 : n ≤ p := by omega
    obtain ⟨z0, z1, z2, z3⟩ := B0.cells
    obtain ⟨f0, f1, f2, f3⟩ := B0.free
    clear H hl hn hp hz B0
    go_enter Tryz.func225, Tryz.ntmps225
    go_wp2_with fail
    refine bodyPost_ret (v := .tuple #[zeroTk, .bool false]) (by simp [results, Tryz.results225, go_sem, z0, z1, z2, z3]) rfl ?_
    exact ⟨rfl, hb0⟩

set_option maxHeartbeats 4000000 in
set_option maxRecDepth 100000 in
theorem sign_some (a : Option Addr) (n c : Nat) (xs : List Tm) (p : Nat) (x : Tm) (w : World) (he : Env w) (hl : LiesT w a n c xs) (hz : ∀ x ∈ xs, x.2.1.size ≤ 20000) (hx : Hid (xs[p]? = some x)) (H : Hid (soloB (ktm x) = true)) :
    Calls Tryz.prog 225 #[.slice a n c, .int .i64 (p : Int)] w fun e w' => (∃ i j : Int, e = .returned (.tuple #[.agg #[.int .i64 x.1, .string x.2.1, .int .i64 i, .int .i64 j], .bool true])) ∧ Below w.heap.size w w' := by
  have hn := hl.len
  have hb0 : Below w.heap.size w (w.alloc objTk) := (Below.refl _ _).alloc (Nat.le_refl _) _
  have B0 := B4.new w (.int .i64 0) (.string ⟨#[]⟩) (.int .i64 0) (.int .i64 0) 89
  obtain ⟨hp, hpe⟩ := List.getElem?_eq_some_iff.1 (unhide hx)
  obtain ⟨b, o, ha, hbl, c0', c1', -, -⟩ := hl.row.up hp
  subst ha
  rw [hpe] at c0' c1'
  have c0 := cell_on hb0 c0'
  have c1 := cell_on hb0 c1'
  have hzz := hz x (by rw [← hpe]; exact List.getElem_mem hp)
  have i0 : (0 : Int) ≤ (p : Int) := by omega
  have i1 : (p : Int) < (n : Int) := by omega
  have i2 : ¬ n ≤ p := by omega
  obtain ⟨q, hq⟩ := solo_lex (unhide H)
  have HX : Hid (lexA rightK x.2.1.data.toList 0 = .ok [(x.1, x.2.1.data.toList, q)]) := hide hq
  have ek : (x.1 != x.1) = false := by simp
  have es : (x.2.1.toList != x.2.1.toList) = false := by simp
  clear H hl hn hp hz hx hpe hq c0' c1'
  go_enter Tryz.func225, Tryz.ntmps225
  go_wp2_with fail
  refine (lex_ok x.2.1 _ _ _ hzz (he.on hb0) HX (hide rfl)).mono ?_
  rintro e w1 ⟨⟨a', m, cc, rfl, hl⟩, hb1⟩
  have hm : m = 1 := hl.len
  subst hm
  obtain ⟨b', o', ha', hbl', d0, d1, d2, d3⟩ := hl.row.up (i := 0) (by simp)
  subst ha'
  have hbx : Below w1.heap.size w1 (w1.alloc (objPos 0 0)) := (Below.refl _ _).alloc (Nat.le_refl _) _
  have x0 := cell_on hbx (cell_on hb1 c0)
  have x1 := cell_on hbx (cell_on hb1 c1)
  have y0 := cell_on hbx d0
  have y1 := cell_on hbx d1
  have y2 := cell_on hbx d2
  have y3 := cell_on hbx d3
  have B2 := (B0.on hb1).on hbx
  obtain ⟨z0, z1, z2, z3⟩ := B2.cells
  obtain ⟨f0, f1, f2, f3⟩ := B2.free
  have hbw := bt (bt hb0 hb1) hbx
  clear c0 c1 d0 d1 d2 d3 hl hbx B0 B2
  simp only [List.map_cons, List.map_nil, List.getElem_cons_zero, tm, bytes_of, Nat.zero_mul, Nat.add_zero] at y0 y1 y2 y3
  generalize ((posL x.2.1.data.toList q).1 : Int) = i at y2
  generalize ((posL x.2.1.data.toList q).2 : Int) = j at y3
  go_wp2_with fail
  go_quiet (fail)
  go_wp2_with fail
  refine bodyPost_ret (v := .tuple #[.agg #[.int .i64 x.1, .string x.2.1, .int .i64 i, .int .i64 j], .bool true]) (by simp [results, Tryz.results225, go_sem, z0, z1, z2, z3]) rfl ?_
  exact ⟨⟨i, j, rfl⟩, below4 (below_drewN hbw nq) (Nat.le_refl _) _ _ _ _⟩
end Go.Proofs.YtcjnhhbcleljmaaGreatDoor.Sb

/- Joined: RuA RuB RuM RuN RuC RuD RuE. -/
import Derived.Test.YtcjnhhbcleljmaaGreatDoorBasE
import Derived.Test.YtcjnhhbcleljmaaGreatDoorBasA
import Derived.Test.YtcjnhhbcleljmaaGreatDoorBasB
import Derived.Test.YtcjnhhbcleljmaaGreatDoorBasD
import Derived.Test.YtcjnhhbcleljmaaGreatDoorRulZa
namespace Go.Proofs.YtcjnhhbcleljmaaGreatDoor.Sb
open Go.RowKit
open V
open Ex (RowO LiesO flatO liesO_own)

/-- An expression, as it is handed on. -/
structure Ez where
  a : Option Addr
  l : Nat
  c : Nat
  xs : List Oo
/-- It lies there. -/
def Ez.In (e : Ez) (w : World) : Prop := LiesO w e.a e.l e.c e.xs
theorem Ez.In.on {e : Ez} {w w' : World} (h : e.In w) (hb : Below w.heap.size w w') : e.In w' := LiesO.on h hb
/-- Not too long to be played. -/
structure Ez.Light (e : Ez) : Prop where
  l : e.l ≤ 40
  x : ∀ x ∈ e.xs, LtO x
/-- An act, as it is handed on. -/
structure Az where
  k : Int
  n : ByteArray
  a : Option Addr
  m : Nat
  mc : Nat
  es : List Ez
  wh : Int
/-- A row of expressions lies at a. -/
def RowE (w : World) (a : Option Addr) (es : List Ez) : Prop :=
  es = [] ∨ ∃ b o, a = some ⟨b, o, none⟩ ∧ b < w.heap.size ∧ ∀ (i : Nat) (e : Ez), es[i]? = some e → w.cell? ⟨b, o + i, none⟩ = some (.slice e.a e.l e.c)
theorem RowE.on {w w' : World} {a : Option Addr} {es : List Ez} (h : RowE w a es) (hb : Below w.heap.size w w') : RowE w' a es := by
  rcases h with h | ⟨b, o, ha, hlt, hc⟩
  · exact Or.inl h
  · exact Or.inr ⟨b, o, ha, by have := hb.size; omega, fun i v hv => cell_on hb (hc i v hv)⟩
theorem RowE.up {w : World} {a : Option Addr} {es : List Ez} {i : Nat} (h : RowE w a es) (hi : i < es.length) : ∃ b o, a = some ⟨b, o, none⟩ ∧ b < w.heap.size ∧ w.cell? ⟨b, o + i, none⟩ = some (.slice es[i].a es[i].l es[i].c) := by
  rcases h with h | ⟨b, o, ha, hlt, hc⟩
  · subst h; simp at hi
  · exact ⟨b, o, ha, hlt, hc i es[i] (by simp [hi])⟩
/-- A list of expressions lies at a slice. -/
structure LiesE (w : World) (a : Option Addr) (n cap : Nat) (es : List Ez) : Prop where
  row : RowE w a es
  le : n ≤ es.length
  ge : es.length ≤ n
  nil : a = none → cap = 0
  cap : n ≤ cap
  all : ∀ e ∈ es, e.In w
theorem LiesE.on {w w' : World} {a : Option Addr} {n cap : Nat} {es : List Ez} (h : LiesE w a n cap es) (hb : Below w.heap.size w w') : LiesE w' a n cap es := ⟨h.row.on hb, h.le, h.ge, h.nil, h.cap, fun e he => (h.all e he).on hb⟩
/-- Its expressions lie there. -/
def Az.In (z : Az) (w : World) : Prop := LiesE w z.a z.m z.mc z.es
theorem Az.In.on {z : Az} {w w' : World} (h : z.In w) (hb : Below w.heap.size w w') : z.In w' := LiesE.on h hb
structure Az.Light (z : Az) : Prop where
  n : z.n.size ≤ 200
  m : z.m ≤ 20
  e : ∀ e ∈ z.es, e.Light
/-- A row of acts lies at a. -/
def RowA (w : World) (a : Option Addr) (zs : List Az) : Prop :=
  zs = [] ∨ ∃ b o, a = some ⟨b, o, none⟩ ∧ b < w.heap.size ∧ ∀ (i : Nat) (z : Az), zs[i]? = some z →
    w.cell? ⟨b, o + i * 4, none⟩ = some (.int .i64 z.k) ∧ w.cell? ⟨b, o + i * 4 + 1, none⟩ = some (.string z.n) ∧ w.cell? ⟨b, o + i * 4 + 2, none⟩ = some (.slice z.a z.m z.mc) ∧ w.cell? ⟨b, o + i * 4 + 3, none⟩ = some (.int .i64 z.wh)
theorem RowA.on {w w' : World} {a : Option Addr} {zs : List Az} (h : RowA w a zs) (hb : Below w.heap.size w w') : RowA w' a zs := by
  rcases h with h | ⟨b, o, ha, hlt, hc⟩
  · exact Or.inl h
  · refine Or.inr ⟨b, o, ha, by have := hb.size; omega, fun i v hv => ?_⟩
    obtain ⟨h0, h1, h2, h3⟩ := hc i v hv
    exact ⟨cell_on hb h0, cell_on hb h1, cell_on hb h2, cell_on hb h3⟩
theorem RowA.up {w : World} {a : Option Addr} {zs : List Az} {i : Nat} (h : RowA w a zs) (hi : i < zs.length) : ∃ b o, a = some ⟨b, o, none⟩ ∧ b < w.heap.size ∧
    w.cell? ⟨b, o + i * 4, none⟩ = some (.int .i64 zs[i].k) ∧ w.cell? ⟨b, o + i * 4 + 1, none⟩ = some (.string zs[i].n) ∧ w.cell? ⟨b, o + i * 4 + 2, none⟩ = some (.slice zs[i].a zs[i].m zs[i].mc) ∧ w.cell? ⟨b, o + i * 4 + 3, none⟩ = some (.int .i64 zs[i].wh) := by
  rcases h with h | ⟨b, o, ha, hlt, hc⟩
  · subst h; simp at hi
  · exact ⟨b, o, ha, hlt, hc i zs[i] (by simp [hi])⟩
/-- A list of acts lies at a slice. -/
structure LiesA (w : World) (a : Option Addr) (n cap : Nat) (zs : List Az) : Prop where
  row : RowA w a zs
  le : n ≤ zs.length
  ge : zs.length ≤ n
  nil : a = none → cap = 0
  cap : n ≤ cap
  all : ∀ z ∈ zs, z.In w
theorem LiesA.on {w w' : World} {a : Option Addr} {n cap : Nat} {zs : List Az} (h : LiesA w a n cap zs) (hb : Below w.heap.size w w') : LiesA w' a n cap zs := ⟨h.row.on hb, h.le, h.ge, h.nil, h.cap, fun e he => (h.all e he).on hb⟩
/-- A row of conditions lies at a. -/
def RowC (w : World) (a : Option Addr) (cs : List Cd) : Prop :=
  cs = [] ∨ ∃ b o, a = some ⟨b, o, none⟩ ∧ b < w.heap.size ∧ ∀ (i : Nat) (c : Cd), cs[i]? = some c →
    w.cell? ⟨b, o + i * 6, none⟩ = some (.int .i64 c.k) ∧ w.cell? ⟨b, o + i * 6 + 1, none⟩ = some (.string c.n) ∧ w.cell? ⟨b, o + i * 6 + 2, none⟩ = some (.slice c.a c.m c.mc) ∧ w.cell? ⟨b, o + i * 6 + 3, none⟩ = some (.int .i64 c.h) ∧ w.cell? ⟨b, o + i * 6 + 4, none⟩ = some (.slice c.la c.ll c.lc) ∧ w.cell? ⟨b, o + i * 6 + 5, none⟩ = some (.slice c.ra c.rl c.rc)
theorem RowC.on {w w' : World} {a : Option Addr} {cs : List Cd} (h : RowC w a cs) (hb : Below w.heap.size w w') : RowC w' a cs := by
  rcases h with h | ⟨b, o, ha, hlt, hc⟩
  · exact Or.inl h
  · refine Or.inr ⟨b, o, ha, by have := hb.size; omega, fun i v hv => ?_⟩
    obtain ⟨h0, h1, h2, h3, h4, h5⟩ := hc i v hv
    exact ⟨cell_on hb h0, cell_on hb h1, cell_on hb h2, cell_on hb h3, cell_on hb h4, cell_on hb h5⟩
theorem RowC.up {w : World} {a : Option Addr} {cs : List Cd} {i : Nat} (h : RowC w a cs) (hi : i < cs.length) : ∃ b o, a = some ⟨b, o, none⟩ ∧ b < w.heap.size ∧
    w.cell? ⟨b, o + i * 6, none⟩ = some (.int .i64 cs[i].k) ∧ w.cell? ⟨b, o + i * 6 + 1, none⟩ = some (.string cs[i].n) ∧ w.cell? ⟨b, o + i * 6 + 2, none⟩ = some (.slice cs[i].a cs[i].m cs[i].mc) ∧ w.cell? ⟨b, o + i * 6 + 3, none⟩ = some (.int .i64 cs[i].h) ∧ w.cell? ⟨b, o + i * 6 + 4, none⟩ = some (.slice cs[i].la cs[i].ll cs[i].lc) ∧ w.cell? ⟨b, o + i * 6 + 5, none⟩ = some (.slice cs[i].ra cs[i].rl cs[i].rc) := by
  rcases h with h | ⟨b, o, ha, hlt, hc⟩
  · subst h; simp at hi
  · exact ⟨b, o, ha, hlt, hc i cs[i] (by simp [hi])⟩
/-- A list of conditions lies at a slice. -/
structure LiesC (w : World) (a : Option Addr) (n cap : Nat) (cs : List Cd) : Prop where
  row : RowC w a cs
  le : n ≤ cs.length
  ge : cs.length ≤ n
  nil : a = none → cap = 0
  cap : n ≤ cap
  all : ∀ c ∈ cs, c.In w
theorem LiesC.on {w w' : World} {a : Option Addr} {n cap : Nat} {cs : List Cd} (h : LiesC w a n cap cs) (hb : Below w.heap.size w w') : LiesC w' a n cap cs := ⟨h.row.on hb, h.le, h.ge, h.nil, h.cap, fun e he => (h.all e he).on hb⟩
/-- A rule, as it is handed on: name, rank, conditions, acts. -/
structure Rz where
  n : ByteArray
  p : Int
  ca : Option Addr
  cl : Nat
  cc : Nat
  cs : List Cd
  aa : Option Addr
  al : Nat
  ac : Nat
  zs : List Az
structure Rz.In (r : Rz) (w : World) : Prop where
  c : LiesC w r.ca r.cl r.cc r.cs
  a : LiesA w r.aa r.al r.ac r.zs
theorem Rz.In.on {r : Rz} {w w' : World} (h : r.In w) (hb : Below w.heap.size w w') : r.In w' := ⟨h.c.on hb, h.a.on hb⟩
structure Rz.Light (r : Rz) : Prop where
  n : r.n.size ≤ 200
  c : r.cl ≤ 20
  a : r.al ≤ 20
  cs : ∀ c ∈ r.cs, c.Light
  zs : ∀ z ∈ r.zs, z.Light
/-- Its box. -/
structure BR (W : World) (b : Nat) (r : Rz) : Prop where
  c0 : W.cell? ⟨b, 0, none⟩ = some (.string r.n)
  c1 : W.cell? ⟨b, 1, none⟩ = some (.int .i64 r.p)
  c2 : W.cell? ⟨b, 2, none⟩ = some (.slice r.ca r.cl r.cc)
  c3 : W.cell? ⟨b, 3, none⟩ = some (.slice r.aa r.al r.ac)
theorem BR.on {W w1 : World} {b : Nat} {r : Rz} (T : BR W b r) (hb : Below W.heap.size W w1) : BR w1 b r :=
  ⟨cell_on hb T.c0, cell_on hb T.c1, cell_on hb T.c2, cell_on hb T.c3⟩
theorem br_of {W : World} {b : Nat} {r : Rz} {t : TypeId} (h : W.heap[b]? = some (.cells #[.string r.n, .int .i64 r.p, .slice r.ca r.cl r.cc, .slice r.aa r.al r.ac] t)) : BR W b r :=
  ⟨by rw [Lib.cell_of_heap h]; rfl, by rw [Lib.cell_of_heap h]; rfl, by rw [Lib.cell_of_heap h]; rfl, by rw [Lib.cell_of_heap h]; rfl⟩
end Go.Proofs.YtcjnhhbcleljmaaGreatDoor.Sb
namespace Go.Proofs.YtcjnhhbcleljmaaGreatDoor.Sb
open Go.RowKit
open V
open Ex (RowO LiesO flatO liesO_own)

set_option maxHeartbeats 4000000 in
theorem heavyR_any (r : Rz) (w : World) (hr : r.In w) :
    Calls Tryz.prog 8 #[.agg #[.string r.n, .int .i64 r.p, .slice r.ca r.cl r.cc, .slice r.aa r.al r.ac]] w fun e w' => ((e = .returned (.bool true)) ∨ (e = .returned (.bool false) ∧ r.Light)) ∧ Below w.heap.size w w' := by
  have hb0 := below_new w (.cells #[.string r.n, .int .i64 r.p, .slice r.ca r.cl r.cc, .slice r.aa r.al r.ac] 25)
  have T0 : BR _ _ r := br_of (heap_alloc_new w (.cells #[.string r.n, .int .i64 r.p, .slice r.ca r.cl r.cc, .slice r.aa r.al r.ac] 25))
  have hr0 := hr.on hb0
  clear hr
  by_cases h1 : 200 < r.n.size
  · have d1 := size_t h1
    obtain ⟨c0, c1, c2, c3⟩ := T0
    clear h1 hr0
    go_enter Tryz.func8, Tryz.ntmps8
    go_wp2_with fail
    go_ret
    exact ⟨Or.inl rfl, hb0⟩
  have d1 := size_f h1
  by_cases h2 : 20 < r.cl
  · have d2 : decide (20 < (r.cl : Int)) = true := by simp; omega
    obtain ⟨c0, c1, c2, c3⟩ := T0
    clear h1 h2 hr0
    go_enter Tryz.func8, Tryz.ntmps8
    go_wp2_with fail
    go_ret
    exact ⟨Or.inl rfl, hb0⟩
  have d2 : decide (20 < (r.cl : Int)) = false := by simp; omega
  by_cases h3 : 20 < r.al
  · have d3 : decide (20 < (r.al : Int)) = true := by simp; omega
    obtain ⟨c0, c1, c2, c3⟩ := T0
    clear h1 h2 h3 hr0
    go_enter Tryz.func8, Tryz.ntmps8
    go_wp2_with fail
    go_ret
    exact ⟨Or.inl rfl, hb0⟩
  have d3 : decide (20 < (r.al : Int)) = false := by simp; omega
  have HN : Hid (r.n.size ≤ 200) := hide (by omega)
  have HC : Hid (r.cl ≤ 20) := hide (by omega)
  have HA : Hid (r.al ≤ 20) := hide (by omega)
  clear h1 h2 h3
  obtain ⟨c0, c1, c2, c3⟩ := T0
  go_enter Tryz.func8, Tryz.ntmps8
  go_wp2_with fail
  have T0 := BR.mk c0 c1 c2 c3
  clear d1 d2 d3 c0 c1 c2 c3
  generalize w.alloc (.cells #[.string r.n, .int .i64 r.p, .slice r.ca r.cl r.cc, .slice r.aa r.al r.ac] 25) = W at hb0 T0 hr0
  go_loopw [3] (fun i wr => ∃ k : Nat, k ≤ r.cl ∧ i = .int .i64 k ∧ Hid (∀ j (_ : j < r.cs.length), j < k → r.cs[j].Light) ∧ Below W.heap.size W wr) (fun i _ => r.cl - (intOf i).toNat)
  case atStart => exact ⟨0, Nat.zero_le _, rfl, hide (fun j _ h => by omega), Below.refl _ _⟩
  case round =>
    obtain ⟨k, hk, rfl, HK, hbw⟩ := hrel
    have hr1 := hr0.on hbw
    obtain ⟨c0, c1, c2, c3⟩ := T0.on hbw
    have hge := hr1.c.ge
    have hle := hr1.c.le
    by_cases hlt : k < r.cl
    · have hk' : k < r.cs.length := by omega
      obtain ⟨b, o, ha, hbl, e0, e1, e2, e3, e4, e5⟩ := hr1.c.row.up hk'
      have hx := hr1.c.all _ (List.getElem_mem hk')
      have HX : Hid (r.cs[k].Light → ∀ j (_ : j < r.cs.length), j < k + 1 → r.cs[j].Light) := hide (fun h j hj h' => by
        by_cases e : j = k
        · subst e; exact h
        · exact unhide HK j hj (by omega))
      rw [ha] at c2
      clear hr1 HK T0 hge hle ha c0 c1 c3
      generalize r.cs[k] = c at e0 e1 e2 e3 e4 e5 hx HX
      go_wp2_with fail
      refine (cheavy_any c _ hx).mono ?_
      rintro e w2 ⟨rfl | ⟨rfl, hL⟩, hb2⟩
      · clear c2 e0 e1 e2 e3 e4 e5 hx HX
        go_wp2_with fail
        go_ret
        exact ⟨Or.inl rfl, bt hb0 (bt hbw hb2)⟩
      · have HL := hide ((unhide HX) hL)
        have hbw2 := bt hbw hb2
        clear c2 e0 e1 e2 e3 e4 e5 hx HX hL hbw hb2
        have hcl := unhide HC
        go_wp2_with fail
        go_roundw
        case rel => exact ⟨k + 1, by omega, by go_num, HL, hbw2⟩
        case measure => simp [intOf]; omega
    · have HCS : Hid (∀ c ∈ r.cs, c.Light) := hide (fun c hc => by
        obtain ⟨j, hj, rfl⟩ := List.getElem_of_mem hc
        exact unhide HK j hj (by omega))
      clear hge hle HK
      go_wp2_with fail
      have T1 := BR.mk c0 c1 c2 c3
      have hw1 := bt hb0 hbw
      clear T0 hr0 hb0 hbw hk hlt c0 c1 c2 c3
      go_loopw [4] (fun i wx => ∃ k : Nat, k ≤ r.al ∧ i = .int .i64 k ∧ Hid (∀ j (_ : j < r.zs.length), j < k → r.zs[j].Light) ∧ Below wr.heap.size wr wx) (fun i _ => r.al - (intOf i).toNat)
      case atStart => exact ⟨0, Nat.zero_le _, rfl, hide (fun j _ h => by omega), Below.refl _ _⟩
      case round =>
        obtain ⟨k, hk, rfl, HK, hbw⟩ := hrel
        have hr2 := hr1.on hbw
        obtain ⟨c0, c1, c2, c3⟩ := T1.on hbw
        have hge := hr2.a.ge
        have hle := hr2.a.le
        by_cases hlt : k < r.al
        · have hk' : k < r.zs.length := by omega
          obtain ⟨b, o, ha, hbl, e0, e1, e2, e3⟩ := hr2.a.row.up hk'
          have hx := hr2.a.all _ (List.getElem_mem hk')
          have HX : Hid (r.zs[k].Light → ∀ j (_ : j < r.zs.length), j < k + 1 → r.zs[j].Light) := hide (fun h j hj h' => by
            by_cases e : j = k
            · subst e; exact h
            · exact unhide HK j hj (by omega))
          rw [ha] at c3
          have hbw1 := bt hw1 hbw
          clear hr2 HK hge hle ha c0 c1 c2
          generalize r.zs[k] = z at e0 e1 e2 e3 hx HX
          by_cases h1 : 200 < z.n.size
          · have d1 := size_t h1
            clear h1 hx HX e0 e3
            go_wp2_with fail
            go_ret
            exact ⟨Or.inl rfl, hbw1⟩
          have d1 := size_f h1
          have hz1 : Hid (z.n.size ≤ 200) := hide (by omega)
          by_cases h2 : 20 < z.m
          · have d2 : decide (20 < (z.m : Int)) = true := by simp; omega
            clear h1 h2 hx HX e0 e3
            go_wp2_with fail
            go_ret
            exact ⟨Or.inl rfl, hbw1⟩
          have d2 : decide (20 < (z.m : Int)) = false := by simp; omega
          have hz2 : Hid (z.m ≤ 20) := hide (by omega)
          clear h1 h2
          go_wp2_with fail
          clear d1 d2
          clear e0 e1 e3 hr1 hbl
          go_loopw [5] (fun i wy => ∃ q : Nat, q ≤ z.m ∧ i = .int .i64 q ∧ Hid (∀ j (_ : j < z.es.length), j < q → z.es[j].Light) ∧ Below wr.heap.size wr wy) (fun i _ => z.m - (intOf i).toNat)
          case atStart => exact ⟨0, Nat.zero_le _, rfl, hide (fun j _ h => by omega), Below.refl _ _⟩
          case round =>
            obtain ⟨q, hq, rfl, HQ, hby⟩ := hrel
            have g3 := cell_on hby c3
            have g2 := cell_on hby e2
            have hy := hx.on hby
            have hge := LiesE.ge hy
            have hle := LiesE.le hy
            have hwy := bt hbw1 hby
            by_cases hqt : q < z.m
            · have hq' : q < z.es.length := by omega
              obtain ⟨b', o', ha, hbl, f0⟩ := (LiesE.row hy).up hq'
              have hx' := LiesE.all hy _ (List.getElem_mem hq')
              have HX' : Hid (z.es[q].Light → ∀ j (_ : j < z.es.length), j < q + 1 → z.es[j].Light) := hide (fun h j hj h' => by
                by_cases e : j = q
                · subst e; exact h
                · exact unhide HQ j hj (by omega))
              rw [ha] at g2
              clear hy HQ HX hge hle ha c3 e2 hx
              generalize z.es[q] = y at f0 hx' HX'
              go_wp2_with fail
              refine (oheavy_any y.a y.l y.c y.xs _ (LiesO.row hx') (LiesO.le hx') (LiesO.ge hx')).mono ?_
              rintro e w2 ⟨rfl | ⟨rfl, hL1, hL2⟩, hb2⟩
              · clear g2 g3 f0 hx' HX'
                go_wp2_with fail
                go_ret
                exact ⟨Or.inl rfl, bt hwy hb2⟩
              · have HL := hide ((unhide HX') ⟨hL1, hL2⟩)
                have hby2 := bt hby hb2
                have hzm := unhide hz2
                clear g2 g3 f0 hx' HX' hL1 hL2 hby hb2
                go_wp2_with fail
                go_roundw
                case rel => exact ⟨q + 1, by omega, by go_num, HL, hby2⟩
                case measure => simp [intOf]; omega
            · have HZ := hide ((unhide HX) ⟨unhide hz1, unhide hz2, fun e he => by
                obtain ⟨j, hj, rfl⟩ := List.getElem_of_mem he
                exact unhide HQ j hj (by omega)⟩)
              have hbx := bt hbw hby
              have hal := unhide HA
              clear hge hle HQ HX hy
              go_wp2_with fail
              go_roundw
              case rel => exact ⟨k + 1, by omega, by go_num, HZ, hbx⟩
              case measure => simp [intOf]; omega
        · have HZS : Hid (∀ z ∈ r.zs, z.Light) := hide (fun c hc => by
            obtain ⟨j, hj, rfl⟩ := List.getElem_of_mem hc
            exact unhide HK j hj (by omega))
          clear hge hle HK
          have HL : Hid r.Light := hide ⟨unhide HN, unhide HC, unhide HA, unhide HCS, unhide HZS⟩
          clear HN HC HA HCS HZS hr2
          have hbw1 := bt hw1 hbw
          go_wp2_with fail
          go_ret
          exact ⟨Or.inr ⟨rfl, unhide HL⟩, hbw1⟩
end Go.Proofs.YtcjnhhbcleljmaaGreatDoor.Sb
namespace Go.Proofs.YtcjnhhbcleljmaaGreatDoor
open Go.RowKit
open V

def wordsB : List ByteArray := [⟨#[102, 97, 99, 116]⟩, ⟨#[114, 117, 108, 101]⟩, ⟨#[112, 97, 116, 116, 101, 114, 110]⟩, ⟨#[110, 111, 116]⟩, ⟨#[97, 110, 100]⟩, ⟨#[111, 114]⟩, ⟨#[98, 101, 102, 111, 114, 101]⟩, ⟨#[111, 110, 99, 101]⟩, ⟨#[97, 108, 119, 97, 121, 115]⟩, ⟨#[115, 105, 110, 99, 101]⟩, ⟨#[100, 114, 111, 112]⟩]
theorem wordsB_l : wordsB.map (fun s => s.data.toList) = wordsL := rfl

set_option maxHeartbeats 1000000 in
theorem refWords_any (w : World) :
    Calls Tryz.prog 116 #[] w fun e w' => e = .returned (.slice (some ⟨w.heap.size, 0, none⟩) 11 11) ∧ w' = w.alloc (.cells #[.string ⟨#[102, 97, 99, 116]⟩, .string ⟨#[114, 117, 108, 101]⟩, .string ⟨#[112, 97, 116, 116, 101, 114, 110]⟩, .string ⟨#[110, 111, 116]⟩, .string ⟨#[97, 110, 100]⟩, .string ⟨#[111, 114]⟩, .string ⟨#[98, 101, 102, 111, 114, 101]⟩, .string ⟨#[111, 110, 99, 101]⟩, .string ⟨#[97, 108, 119, 97, 121, 115]⟩, .string ⟨#[115, 105, 110, 99, 101]⟩, .string ⟨#[100, 114, 111, 112]⟩] 9) := by
  go_enter Tryz.func116, Tryz.ntmps116
  go_wp2_with fail
  go_ret
  exact ⟨rfl, rfl⟩

theorem words_cell (w : World) (k : Nat) (hk : k < 11) : (w.alloc (.cells #[.string ⟨#[102, 97, 99, 116]⟩, .string ⟨#[114, 117, 108, 101]⟩, .string ⟨#[112, 97, 116, 116, 101, 114, 110]⟩, .string ⟨#[110, 111, 116]⟩, .string ⟨#[97, 110, 100]⟩, .string ⟨#[111, 114]⟩, .string ⟨#[98, 101, 102, 111, 114, 101]⟩, .string ⟨#[111, 110, 99, 101]⟩, .string ⟨#[97, 108, 119, 97, 121, 115]⟩, .string ⟨#[115, 105, 110, 99, 101]⟩, .string ⟨#[100, 114, 111, 112]⟩] 9)).cell? ⟨w.heap.size, k, none⟩ = some (.string (wordsB[k]'hk)) := by
  rw [Lib.cell_of_heap (heap_alloc_new w _)]
  have e : (#[.string ⟨#[102, 97, 99, 116]⟩, .string ⟨#[114, 117, 108, 101]⟩, .string ⟨#[112, 97, 116, 116, 101, 114, 110]⟩, .string ⟨#[110, 111, 116]⟩, .string ⟨#[97, 110, 100]⟩, .string ⟨#[111, 114]⟩, .string ⟨#[98, 101, 102, 111, 114, 101]⟩, .string ⟨#[111, 110, 99, 101]⟩, .string ⟨#[97, 108, 119, 97, 121, 115]⟩, .string ⟨#[115, 105, 110, 99, 101]⟩, .string ⟨#[100, 114, 111, 112]⟩] : Array Value) = (wordsB.map Value.string).toArray := rfl
  have lg : k < wordsB.length := hk
  rw [e]
  simp [lg]
  rfl
theorem words_no {s : ByteArray} (h : ∀ j (hj : j < 11), (wordsB[j]'hj).data.toList ≠ s.data.toList) : wordsL.contains s.data.toList = false := by
  rw [← wordsB_l]
  rw [Bool.eq_false_iff]
  intro hc
  rw [List.contains_iff_mem] at hc
  obtain ⟨t, ht, e⟩ := List.mem_map.1 hc
  obtain ⟨j, hj, rfl⟩ := List.mem_iff_getElem.1 ht
  exact h j hj e
theorem words_yes {s : ByteArray} (k : Nat) (hk : k < 11) (h : (wordsB[k]'hk).data.toList = s.data.toList) : wordsL.contains s.data.toList = true := by
  rw [← wordsB_l, List.contains_iff_mem, ← h]
  exact List.mem_map.2 ⟨_, List.getElem_mem hk, rfl⟩

set_option maxHeartbeats 2000000 in
theorem refName_any (s : ByteArray) (w : World) (hs : s.size ≤ maxLen) :
    Calls Tryz.prog 60 #[.string s] w fun e w' => e = .returned (.bool (nameB s.data.toList)) ∧ Below w.heap.size w w' := by
  cases hb : symB s.data.toList with
  | false =>
    have hn : nameB s.data.toList = false := by simp [nameB, hb]
    rw [hn]
    go_enter Tryz.func60, Tryz.ntmps60
    go_wp2_with (go_at_call 115; refine (refWord_any _ _ hs).mono ?_; rintro e w1 ⟨rfl, rfl⟩; rw [hb])
    go_ret
    exact ⟨rfl, Below.refl _ _⟩
  | true =>
    have HN : Hid (nameB s.data.toList = !wordsL.contains s.data.toList) := by
      show _ = _
      simp [nameB, hb]
    have hW : Below w.heap.size w (w.alloc (.cells #[.string ⟨#[102, 97, 99, 116]⟩, .string ⟨#[114, 117, 108, 101]⟩, .string ⟨#[112, 97, 116, 116, 101, 114, 110]⟩, .string ⟨#[110, 111, 116]⟩, .string ⟨#[97, 110, 100]⟩, .string ⟨#[111, 114]⟩, .string ⟨#[98, 101, 102, 111, 114, 101]⟩, .string ⟨#[111, 110, 99, 101]⟩, .string ⟨#[97, 108, 119, 97, 121, 115]⟩, .string ⟨#[115, 105, 110, 99, 101]⟩, .string ⟨#[100, 114, 111, 112]⟩] 9)) := (Below.refl _ _).alloc (Nat.le_refl _) _
    have hc := words_cell w
    go_enter Tryz.func60, Tryz.ntmps60
    go_wp2_with (first | (go_at_call 115; refine (refWord_any _ _ hs).mono ?_; rintro e w0 ⟨rfl, hw0⟩; subst w0; rw [hb]) | (go_at_call 116; refine (refWords_any _).mono ?_; rintro e w1 ⟨rfl, rfl⟩))
    generalize w.alloc (.cells #[.string ⟨#[102, 97, 99, 116]⟩, .string ⟨#[114, 117, 108, 101]⟩, .string ⟨#[112, 97, 116, 116, 101, 114, 110]⟩, .string ⟨#[110, 111, 116]⟩, .string ⟨#[97, 110, 100]⟩, .string ⟨#[111, 114]⟩, .string ⟨#[98, 101, 102, 111, 114, 101]⟩, .string ⟨#[111, 110, 99, 101]⟩, .string ⟨#[97, 108, 119, 97, 121, 115]⟩, .string ⟨#[115, 105, 110, 99, 101]⟩, .string ⟨#[100, 114, 111, 112]⟩] 9) = W at *
    have HC := hide hc
    clear hc
    go_loop [4] (fun i => ∃ k : Nat, k ≤ 11 ∧ i = .int .i64 k ∧ Hid (∀ j (hj : j < 11), j < k → (wordsB[j]'hj).data.toList ≠ s.data.toList)) (fun i => 11 - (intOf i).toNat)
    case atStart => exact ⟨0, by omega, rfl, hide (by intro j hj h; omega)⟩
    case round =>
      obtain ⟨k, hk, rfl, HK⟩ := hrel
      by_cases hlt : k < 11
      · have c0 := unhide HC k hlt
        by_cases he : (wordsB[k]'hlt).data.toList = s.data.toList
        · have d0 : ((wordsB[k]'hlt).toList == s.toList) = true := by rw [ByteArray.toList_eq, ByteArray.toList_eq]; exact beq_iff_eq.2 he
          have HR : Hid (nameB s.data.toList = false) := by
            show _ = _
            rw [unhide HN, words_yes k hlt he]; rfl
          clear he
          generalize (wordsB[k]'hlt) = t at c0 d0
          go_wp2_with fail
          go_ret
          exact ⟨Sb.ret_bool' (unhide HR).symm, hW⟩
        · have d0 : ((wordsB[k]'hlt).toList == s.toList) = false := by rw [ByteArray.toList_eq, ByteArray.toList_eq]; exact beq_eq_false_iff_ne.2 he
          have HR : Hid (∀ j (hj : j < 11), j < k + 1 → (wordsB[j]'hj).data.toList ≠ s.data.toList) := by
            show ∀ j (hj : j < 11), j < k + 1 → (wordsB[j]'hj).data.toList ≠ s.data.toList
            intro j hj h
            by_cases hjk : j = k
            · subst hjk; exact he
            · exact unhide HK j hj (by omega)
          clear he
          generalize (wordsB[k]'hlt) = t at c0 d0
          go_wp2_with fail
          go_round
          case rel => exact ⟨k + 1, by omega, by go_num, HR⟩
          case measure => simp [intOf]; omega
      · have HR : Hid (nameB s.data.toList = true) := by
          show _ = _
          rw [unhide HN, words_no (fun j hj => unhide HK j hj (by omega))]; rfl
        have hk11 : k = 11 := by omega
        subst hk11
        go_wp2_with fail
        go_ret
        exact ⟨Sb.ret_bool' (unhide HR).symm, hW⟩
end Go.Proofs.YtcjnhhbcleljmaaGreatDoor
namespace Go.Proofs.YtcjnhhbcleljmaaGreatDoor.Sb
open Go.RowKit
open V
open Ex (RowO LiesO flatO)

set_option maxHeartbeats 1000000 in
theorem refTerm_q (t : Bb) (q : Bool) (w : World) (ht : Lt t) (H : Hid (rightT t = q)) :
    Calls Tryz.prog 92 #[.agg #[.string t.1, .int .i64 t.2.1, .int .i64 t.2.2.1, .string t.2.2.2]] w fun e w' => e = .returned (.bool q) ∧ Below w.heap.size w w' := by
  have hba : Below w.heap.size w (w.alloc (bxT t)) := (Below.refl _ _).alloc (Nat.le_refl _) _
  obtain ⟨c0, c1, c2, c3⟩ := quadT (heap_alloc_new w (bxT t))
  by_cases hz : t.1.size = 0
  · have e0 : decide (0 < t.1.size) = false := decide_eq_false (by omega)
    have HQ : Hid (rightVv t.2 = q) := hide (by rw [← unhide H, rightT, if_pos hz])
    have hv := fun W => refValue_any t.2.1 t.2.2.1 t.2.2.2 W (by have := ht.2; omega)
    rw [show rightB t.2.1 t.2.2.1 t.2.2.2.data.toList = q from unhide HQ] at hv
    clear hz H
    go_enter Tryz.func92, Tryz.ntmps92
    go_wp2_with fail
    refine (hv _).mono ?_
    rintro e w1 ⟨rfl, hb1⟩
    clear c0 c1 c2 c3 e0 hv
    go_wp2_with fail
    go_ret
    exact ⟨rfl, bt hba hb1⟩
  · have e0 : decide (0 < t.1.size) = true := decide_eq_true (by omega)
    have HQ : Hid ((varB t.1.data.toList && decide (t.2 = zeroV)) = q) := hide (by rw [← unhide H, rightT, if_neg hz])
    have hw := fun W => refWordU_any t.1 W (by unfold maxLen; have := ht.1; omega)
    clear hz H
    cases hv : varB t.1.data.toList with
    | false =>
      have HQ' : Hid (false = q) := hide (by rw [← unhide HQ, hv]; rfl)
      rw [hv] at hw
      go_enter Tryz.func92, Tryz.ntmps92
      go_wp2_with fail
      refine (hw _).mono ?_
      rintro e w1 ⟨rfl, rfl⟩
      clear c0 c1 c2 c3 hv e0 hw
      go_wp2_with fail
      go_ret
      exact ⟨ret_bool' (unhide HQ'), hba⟩
    | true =>
      have HQ' : Hid (decide (t.2 = zeroV) = q) := hide (by rw [← unhide HQ, hv]; rfl)
      have hE := eqV0 t.2 zeroV
      rw [unhide HQ'] at hE
      simp only [zeroV] at hE
      rw [hv] at hw
      go_enter Tryz.func92, Tryz.ntmps92
      go_wp2_with fail
      refine (hw _).mono ?_
      rintro e w1 ⟨rfl, rfl⟩
      clear hv e0 hw
      go_wp2_with fail
      go_ret
      exact ⟨rfl, hba⟩

set_option maxHeartbeats 1000000 in
theorem refAtom_any (n : ByteArray) (a : Option Addr) (len cap : Nat) (ts : List Bb) (w : World) (hn : n.size ≤ 200) (hv : ∀ t ∈ ts, Lt t) (hrow : RowB w a ts) (hl : len ≤ ts.length) (hl' : ts.length ≤ len) (h20 : len ≤ 20) :
    Calls Tryz.prog 44 #[.agg #[.string n, .slice a len cap]] w fun e w' => e = .returned (.bool (rightA n ts)) ∧ Below w.heap.size w w' := by
  have hlen : ts.length = len := by omega
  cases hnm : nameB n.data.toList with
  | false =>
    have HR : Hid (rightA n ts = false) := by
      show _ = _
      simp [rightA, hnm]
    clear hlen
    go_enter Tryz.func44, Tryz.ntmps44
    go_wp2_with (go_at_call 60; refine (refName_any _ _ (by unfold maxLen; omega)).mono ?_; rintro e w1 ⟨rfl, hb1⟩; rw [hnm])
    go_ret
    exact ⟨ret_bool' (unhide HR).symm, below_box hb1⟩
  | true =>
    by_cases h5 : 5 < len
    · have HR : Hid (rightA n ts = false) := by
        show _ = _
        simp [rightA, hlen]; intros; omega
      have d5 : decide (5 < (len : Int)) = true := by simp; omega
      clear hlen
      go_enter Tryz.func44, Tryz.ntmps44
      go_wp2_with (go_at_call 60; refine (refName_any _ _ (by unfold maxLen; omega)).mono ?_; rintro e w1 ⟨rfl, hb1⟩; rw [hnm]; obtain ⟨hcl, hfr⟩ := bcell hb1)
      go_ret
      exact ⟨ret_bool' (unhide HR).symm, below_box hb1⟩
    · have d5 : decide (5 < (len : Int)) = false := by simp; omega
      have HR : Hid (rightA n ts = ts.all rightT) := by
        show _ = _
        simp [rightA, hnm, hlen]; omega
      clear hlen
      have k1 : (w.alloc (.cells #[.string n, .slice a len cap] 46)).cell? ⟨w.heap.size, 1, none⟩ = some (.slice a len cap) := by rw [Lib.cell_of_heap (heap_alloc_new w _)]; rfl
      have hsz : w.heap.size < (w.alloc (.cells #[.string n, .slice a len cap] 46)).heap.size := by simp
      go_enter Tryz.func44, Tryz.ntmps44
      go_wp2_with (go_at_call 60; refine (refName_any _ _ (by unfold maxLen; omega)).mono ?_; rintro e w1 ⟨rfl, hb1⟩; rw [hnm]; obtain ⟨hcl, hfr⟩ := bcell hb1)
      have hw1 := below_box hb1
      have m1 : w1.cell? ⟨w.heap.size, 1, none⟩ = some (.slice a len cap) := (hb1.cell (p := ⟨_, _, none⟩) hsz).trans k1
      have hs1 : w.heap.size < w1.heap.size := by have := hb1.size; omega
      clear hb1 hcl hfr hnm k1 hsz
      go_loopw [3] (fun i wr => ∃ k : Nat, k ≤ len ∧ i = .int .i64 k ∧ Hid ((ts.take k).all rightT = true) ∧ Below w1.heap.size w1 wr) (fun i _ => len - (intOf i).toNat)
      case atStart => exact ⟨0, Nat.zero_le _, rfl, hide rfl, Below.refl _ _⟩
      case round =>
        obtain ⟨k, hk, rfl, HK, hbw⟩ := hrel
        have r1 : wr.cell? ⟨w.heap.size, 1, none⟩ = some (.slice a len cap) := (hbw.cell (p := ⟨_, _, none⟩) hs1).trans m1
        have hww : Below w.heap.size w wr := bt hw1 hbw
        by_cases hlt : k < len
        · obtain ⟨b, o, ha, hbl, c0, c1, c2, c3⟩ := (hrow.on hww).up (show k < ts.length by omega)
          subst ha
          have hsz := hv ts[k] (List.getElem_mem (by omega))
          cases hr : rightT ts[k] with
          | false =>
            have HF := hide (allT_get (show k < ts.length by omega) hr)
            have HX := hide hr
            clear hr
            generalize ts[k] = t at c0 c1 c2 c3 hsz HX
            go_wp2_with fail
            refine (refTerm_q t false _ hsz HX).mono ?_
            rintro e w2 ⟨rfl, hb2⟩
            go_wp2_with fail
            go_ret
            exact ⟨ret_bool' (by rw [unhide HR, unhide HF]), bt hww hb2⟩
          | true =>
            have HN := hide (allT_take (show k < ts.length by omega) hr (unhide HK))
            have HX := hide hr
            clear hr
            generalize ts[k] = t at c0 c1 c2 c3 hsz HX
            go_wp2_with fail
            refine (refTerm_q t true _ hsz HX).mono ?_
            rintro e w2 ⟨rfl, hb2⟩
            go_wp2_with fail
            go_roundw
            case rel => exact ⟨k + 1, by omega, by go_num, HN, bt hbw hb2⟩
            case measure => simp [intOf]; omega
        · have HF : Hid (ts.all rightT = true) := by
            have h := unhide HK
            rw [List.take_of_length_le (by omega)] at h
            exact h
          go_wp2_with fail
          go_ret
          exact ⟨ret_bool' (by rw [unhide HR, unhide HF]), hww⟩
theorem refAtom_x (n : ByteArray) (a : Option Addr) (len cap : Nat) (ts : List Bb) (q : Bool) (w : World) (hn : n.size ≤ 200) (hv : ∀ t ∈ ts, Lt t) (hA : Lies w a len cap ts) (h20 : len ≤ 20) (H : Hid (rightA n ts = q)) :
    Calls Tryz.prog 44 #[.agg #[.string n, .slice a len cap]] w fun e w' => e = .returned (.bool q) ∧ Below w.heap.size w w' := by
  have := refAtom_any n a len cap ts w hn hv hA.row hA.le hA.ge h20
  rw [unhide H] at this
  exact this
theorem refExpr_x (a : Option Addr) (len cap : Nat) (xs : List Oo) (q : Bool) (w : World) (hA : LiesO w a len cap xs) (hL : ∀ x ∈ xs, LtO x) (H : Hid (exprB xs = q)) :
    Calls Tryz.prog 62 #[.slice a len cap] w fun e w' => e = .returned (.bool q) ∧ Below w.heap.size w w' := by
  have := refExpr_any a len cap xs w hA.row hA.le hA.ge hL
  rw [unhide H] at this
  exact this
theorem sum_no {a b : Nat} (ha : a ≤ 200) (hb : b ≤ 20) : IntKind.i64.wrap ((a : Int) + (b : Int)) = (a : Int) + (b : Int) ∧ wrap64 ((a : Int) + (b : Int)) = (a : Int) + (b : Int) := by
  refine ⟨?_, ?_⟩
  · simp [IntKind.wrap, IntKind.bits, IntKind.signed]; omega
  · simp [wrap64]; omega

set_option maxHeartbeats 2000000 in
theorem refGuard_any (c : Cd) (q : Bool) (w : World) (hc : c.In w) (hL : c.Light) (H : Hid (guardB c.k c.n c.m c.h c.xs c.ys = q)) :
    Calls Tryz.prog 117 #[.agg #[.int .i64 c.k, .string c.n, .slice c.a c.m c.mc, .int .i64 c.h, .slice c.la c.ll c.lc, .slice c.ra c.rl c.rc]] w fun e w' => e = .returned (.bool q) ∧ Below w.heap.size w w' := by
  have hb0 := below_new w (bxC c)
  have T0 := bc_of (heap_alloc_new w (bxC c))
  have hc0 := hc.on hb0
  obtain ⟨e1, e2⟩ := sum_no hL.n hL.m
  by_cases hk : c.k = 3
  case neg =>
    have ek : (c.k == 3) = false := by simp [hk]
    have HR := hide (show false = q by rw [← unhide H]; simp [guardB, hk])
    clear T0 hc0 hk H hL hc e1 e2
    go_enter Tryz.func117, Tryz.ntmps117
    go_wp2_with fail
    go_ret
    exact ⟨ret_bool' (unhide HR), hb0⟩
  have ek : (c.k == 3) = true := by simp [hk]
  have HK := hide hk
  by_cases hz : c.n.size = 0 ∧ c.m = 0
  case neg =>
    have ez : ((c.n.size : Int) + (c.m : Int) == 0) = false := by simp; omega
    have HR := hide (show false = q by
      rw [← unhide H]
      cases hg : guardB c.k c.n c.m c.h c.xs c.ys with
      | false => rfl
      | true => have := guard_iff.1 hg; exact absurd ⟨this.2.1, this.2.2.1⟩ hz)
    clear hc0 hk hz H hL hc
    obtain ⟨c0, c1, c2, c3, c4, c5⟩ := T0
    go_enter Tryz.func117, Tryz.ntmps117
    go_wp2_with fail
    go_ret
    exact ⟨ret_bool' (unhide HR), hb0⟩
  have ez : ((c.n.size : Int) + (c.m : Int) == 0) = true := by simp [hz.1, hz.2]
  have HZ := hide hz
  clear hk hz
  obtain ⟨p, hp⟩ : ∃ p, wayB c.h = p := ⟨_, rfl⟩
  have F1 := fun W => refIn_q c.h 1 4 p W (hide hp)
  obtain ⟨c0, c1, c2, c3, c4, c5⟩ := T0
  go_enter Tryz.func117, Tryz.ntmps117
  go_wp2_with fail
  refine (F1 _).mono ?_
  rintro e w2 ⟨rfl, hw2⟩
  subst hw2
  clear F1 ek ez e1 e2
  cases p with
  | false =>
    have HR := hide (show false = q by rw [← unhide H]; simp [guardB, hp])
    clear c0 c1 c2 c3 c4 c5 hc0 H hL hc hp
    go_wp2_with fail
    go_ret
    exact ⟨ret_bool' (unhide HR), hb0⟩
  | true =>
  have HY := hide hp
  clear hp
  obtain ⟨p, hp⟩ : ∃ p, exprB c.xs = p := ⟨_, rfl⟩
  have F1 := refExpr_x c.la c.ll c.lc c.xs p _ hc0.x hL.x (hide hp)
  go_wp2_with fail
  refine F1.mono ?_
  rintro e w3 ⟨rfl, hb3⟩
  have T3 := (BC.mk c0 c1 c2 c3 c4 c5).on hb3
  have hc3 := hc0.on hb3
  have hw3 := bt hb0 hb3
  clear F1 hc0 hb0 hb3 c0 c1 c2 c3 c4 c5
  cases p with
  | false =>
    have HR := hide (show false = q by rw [← unhide H]; simp [guardB, hp])
    clear T3 hc3 H hL hc hp
    go_wp2_with fail
    go_ret
    exact ⟨ret_bool' (unhide HR), hw3⟩
  | true =>
  have HX := hide hp
  clear hp
  obtain ⟨c0, c1, c2, c3, c4, c5⟩ := T3
  obtain ⟨p, hp⟩ : ∃ p, exprB c.ys = p := ⟨_, rfl⟩
  have F1 := refExpr_x c.ra c.rl c.rc c.ys p w3 hc3.y hL.y (hide hp)
  go_wp2_with fail
  refine F1.mono ?_
  rintro e w4 ⟨rfl, hb4⟩
  have hw4 := bt hw3 hb4
  have HR := hide (show p = q by
    have hz := unhide HZ
    rw [← unhide H]
    simp [guardB, unhide HK, hz.1, hz.2, unhide HY, unhide HX, hp])
  clear F1 hc3 hw3 hb4 c0 c1 c2 c3 c4 c5 H hL hc hp
  go_wp2_with fail
  go_ret
  exact ⟨ret_bool' (unhide HR), hw4⟩
end Go.Proofs.YtcjnhhbcleljmaaGreatDoor.Sb
namespace Go.Proofs.YtcjnhhbcleljmaaGreatDoor.Sb
open Go.RowKit
open V
open Ex (RowO LiesO flatO liesO_own)

/-- In plain words. -/
def Cd.pl (c : Cd) : Cp := (c.k, (c.n.data.toList, c.ts), c.h, c.xs, c.ys)
def Az.pl (z : Az) : Ap := (z.k, z.n.data.toList, z.es.map Ez.xs, z.wh)
def Rz.pl (r : Rz) : Rp := (r.n.data.toList, r.p, r.cs.map Cd.pl, r.zs.map Az.pl)

theorem in9_q (n lo hi : Int) (q : Bool) (w : World) (H : Hid (decide (lo ≤ n ∧ n ≤ hi) = q)) :
    Calls Tryz.prog 55 #[.int .i64 n, .int .i64 lo, .int .i64 hi] w fun e w' => e = .returned (.bool q) ∧ w' = w := by
  by_cases h1 : lo ≤ n
  · have d1 : decide (lo ≤ n) = true := decide_eq_true h1
    have HQ := hide (show decide (n ≤ hi) = q by rw [← unhide H]; simp [h1])
    clear h1 H
    go_enter Tryz.func55, Tryz.ntmps55
    go_wp2_with fail
    go_ret
    exact ⟨ret_bool' (unhide HQ), rfl⟩
  · have d1 : decide (lo ≤ n) = false := decide_eq_false h1
    have HQ := hide (show false = q by rw [← unhide H]; simp [h1])
    clear h1 H
    go_enter Tryz.func55, Tryz.ntmps55
    go_wp2_with fail
    go_ret
    exact ⟨ret_bool' (unhide HQ), rfl⟩

theorem hasN_take {cs : List Cp} {k : Nat} (hk : k < cs.length) : hasN (cs.take (k + 1)) = hasN (cs.take k) + (if cs[k].1 = 1 then 1 else 0) := by
  unfold hasN
  rw [List.take_succ_eq_append_getElem hk, List.filter_append, List.length_append]
  by_cases h : cs[k].1 = 1 <;> simp [h]
set_option maxHeartbeats 2000000 in
theorem has_any (a : Option Addr) (n cap : Nat) (cs : List Cd) (w : World) (hA : LiesC w a n cap cs) (h20 : n ≤ 20) :
    Calls Tryz.prog 63 #[.slice a n cap] w fun e w' => e = .returned (.int .i64 (hasN (cs.map Cd.pl))) ∧ w' = w := by
  have hge := hA.ge
  have hle := hA.le
  have hrow := hA.row
  clear hA
  go_enter Tryz.func63, Tryz.ntmps63
  go_wp2_with fail
  go_loop [3, 4] (fun m i => ∃ k : Nat, k ≤ n ∧ i = .int .i64 k ∧ m = .int .i64 (hasN ((cs.map Cd.pl).take k))) (fun _ i => n - (intOf i).toNat)
  case atStart => exact ⟨0, Nat.zero_le _, rfl, by simp [hasN]⟩
  case round =>
    obtain ⟨k, hk, rfl, rfl⟩ := hrel
    by_cases hlt : k < n
    · have hk' : k < cs.length := by omega
      obtain ⟨b, o, ha, hbl, e0, -, -, -, -, -⟩ := hrow.up hk'
      subst ha
      have hs := hasN_take (cs := cs.map Cd.pl) (k := k) (by simpa using hk')
      rw [show ((cs.map Cd.pl)[k]'(by simpa using hk')).1 = cs[k].k by simp [Cd.pl]] at hs
      have hb : hasN ((cs.map Cd.pl).take k) ≤ 20 := Nat.le_trans (hasN_le _) (by simp; omega)
      generalize hasN ((cs.map Cd.pl).take k) = m at hs hb
      have HS := hide hs
      clear hs
      by_cases h1 : cs[k].k = 1
      · have d1 : (cs[k].k == 1) = true := by simp [h1]
        have HS' := hide (show hasN ((cs.map Cd.pl).take (k + 1)) = m + 1 by rw [unhide HS, if_pos h1])
        clear h1 HS
        generalize cs[k].k = x at e0 d1
        go_wp2_with fail
        go_round
        case rel => exact ⟨k + 1, by omega, by go_num, by rw [unhide HS']; go_num⟩
        case measure => simp [intOf]; omega
      · have d1 : (cs[k].k == 1) = false := by simp [h1]
        have HS' := hide (show hasN ((cs.map Cd.pl).take (k + 1)) = m by rw [unhide HS, if_neg h1]; omega)
        clear h1 HS
        generalize cs[k].k = x at e0 d1
        go_wp2_with fail
        go_round
        case rel => exact ⟨k + 1, by omega, by go_num, by rw [unhide HS']⟩
        case measure => simp [intOf]; omega
    · have hkn : (cs.map Cd.pl).take k = cs.map Cd.pl := List.take_of_length_le (by simp; omega)
      rw [hkn]
      go_wp2_with fail
      go_ret
      exact ⟨rfl, rfl⟩
end Go.Proofs.YtcjnhhbcleljmaaGreatDoor.Sb
namespace Go.Proofs.YtcjnhhbcleljmaaGreatDoor.Sb
open Go.RowKit
open V
open Ex (RowO LiesO flatO liesO_own)

theorem right_has {c : Cd} (h : c.k = 1 ∨ c.k = 2) : rightC' c.pl = (rightA c.n c.ts && (decide (c.h = 0) && decide (c.xs.length + c.ys.length = 0))) := by
  unfold rightC' Cd.pl
  simp only
  rw [if_pos h]
  show (rightA c.n c.ts && _) = _
  congr 1
  by_cases h0 : c.h = 0
  · simp only [h0, true_and, decide_true, Bool.true_and]
    congr 1
    simp only [List.length_eq_zero_iff, Nat.add_eq_zero_iff]
  · simp [h0]
theorem bytes_nil {n : ByteArray} : n.data.toList = [] ↔ n.size = 0 := by
  constructor
  · intro h
    show n.data.size = 0
    rw [← Array.length_toList, h]; rfl
  · intro h
    exact List.eq_nil_of_length_eq_zero (by rw [Array.length_toList]; exact h)
theorem sum_40 {a b : Nat} (ha : a ≤ 40) (hb : b ≤ 40) : IntKind.i64.wrap ((a : Int) + (b : Int)) = (a : Int) + (b : Int) ∧ wrap64 ((a : Int) + (b : Int)) = (a : Int) + (b : Int) := by
  refine ⟨?_, ?_⟩
  · simp [IntKind.wrap, IntKind.bits, IntKind.signed]; omega
  · simp [wrap64]; omega
theorem right_guard {c : Cd} (h : ¬ (c.k = 1 ∨ c.k = 2)) (hm : c.m = c.ts.length) : rightC' c.pl = guardB c.k c.n c.m c.h c.xs c.ys := by
  unfold rightC' Cd.pl guardB
  simp only
  rw [if_neg h]
  have e : decide ((c.n.data.toList, c.ts) = noA) = (decide (c.n.size = 0) && decide (c.m = 0)) := by
    rw [← Bool.decide_and]
    congr 1
    unfold noA
    rw [Prod.mk.injEq, bytes_nil, hm, List.length_eq_zero_iff]
  rw [e, Bool.and_assoc]
  rfl

set_option maxHeartbeats 4000000 in
theorem cond_q (c : Cd) (q : Bool) (w : World) (hc : c.In w) (hL : c.Light) (H : Hid (rightC' c.pl = q)) :
    Calls Tryz.prog 61 #[.agg #[.int .i64 c.k, .string c.n, .slice c.a c.m c.mc, .int .i64 c.h, .slice c.la c.ll c.lc, .slice c.ra c.rl c.rc]] w fun e w' => e = .returned (.bool q) ∧ Below w.heap.size w w' := by
  have hb0 := below_new w (bxC c)
  have T0 := bc_of (heap_alloc_new w (bxC c))
  have hc0 := hc.on hb0
  have hm : c.m = c.ts.length := by have := hc.t.le; have := hc.t.ge; omega
  have hl : c.ll = c.xs.length := by have := hc.x.le; have := hc.x.ge; omega
  have hr : c.rl = c.ys.length := by have := hc.y.le; have := hc.y.ge; omega
  by_cases hk : c.k = 1 ∨ c.k = 2
  · rw [right_has hk, ← hl, ← hr] at H
    have hm20 : c.m ≤ 20 := hL.m
    have hll := hL.l
    have hrl := hL.r
    obtain ⟨p, hp⟩ : ∃ p, rightA c.n c.ts = p := ⟨_, rfl⟩
    have F := fun W hA => refAtom_x c.n c.a c.m c.mc c.ts p W hL.n hL.t hA hm20 (hide hp)
    rw [hp] at H
    clear hp hm hl hr hL hc
    have hs : IntKind.i64.wrap ((c.ll : Int) + (c.rl : Int)) = (c.ll : Int) + (c.rl : Int) ∧ wrap64 ((c.ll : Int) + (c.rl : Int)) = (c.ll : Int) + (c.rl : Int) := sum_40 (by omega) (by omega)
    obtain ⟨s1, s2⟩ := hs
    have HK := hide (show (p && ((c.h == 0) && ((c.ll : Int) + (c.rl : Int) == 0))) = q by
      rw [← unhide H]
      congr 1
      congr 1
      · by_cases h : c.ll + c.rl = 0
        · rw [decide_eq_true h]; simp; omega
        · rw [decide_eq_false h]; simp; omega)
    clear H hll hrl hm20
    obtain ⟨c0, c1, c2, c3, c4, c5⟩ := T0
    rcases hk with hk | hk
    · have d1 : (c.k == 1) = true := by simp [hk]
      clear hk
      go_enter Tryz.func61, Tryz.ntmps61
      go_wp2_with fail
      refine (F _ hc0.t).mono ?_
      rintro e w2 ⟨rfl, hb2⟩
      have T2 := (BC.mk (c := c) c0 c1 c2 c3 c4 c5).on hb2
      have hw2 := bt hb0 hb2
      clear F hc0 hb0 hb2 c0 c1 c2 c3 c4 c5
      cases p with
      | false =>
        have HQ := hide (show false = q by rw [← unhide HK]; rfl)
        clear T2 HK
        go_wp2_with fail
        go_ret
        exact ⟨ret_bool' (unhide HQ), hw2⟩
      | true =>
        by_cases hh : c.h = 0
        · have d3 : (c.h == 0) = true := by simp [hh]
          have HQ := hide (show ((c.ll : Int) + (c.rl : Int) == 0) = q by rw [← unhide HK, d3]; rfl)
          clear hh HK
          obtain ⟨c0, c1, c2, c3, c4, c5⟩ := T2
          go_wp2_with fail
          go_ret
          exact ⟨ret_bool' (unhide HQ), hw2⟩
        · have d3 : (c.h == 0) = false := by simp [hh]
          have HQ := hide (show false = q by rw [← unhide HK, d3]; rfl)
          clear hh HK
          obtain ⟨c0, c1, c2, c3, c4, c5⟩ := T2
          go_wp2_with fail
          go_ret
          exact ⟨ret_bool' (unhide HQ), hw2⟩
    · have d1 : (c.k == 1) = false := by simp [hk]
      have d2 : (c.k == 2) = true := by simp [hk]
      clear hk
      go_enter Tryz.func61, Tryz.ntmps61
      go_wp2_with fail
      refine (F _ hc0.t).mono ?_
      rintro e w2 ⟨rfl, hb2⟩
      have T2 := (BC.mk (c := c) c0 c1 c2 c3 c4 c5).on hb2
      have hw2 := bt hb0 hb2
      clear F hc0 hb0 hb2 c0 c1 c2 c3 c4 c5
      cases p with
      | false =>
        have HQ := hide (show false = q by rw [← unhide HK]; rfl)
        clear T2 HK
        go_wp2_with fail
        go_ret
        exact ⟨ret_bool' (unhide HQ), hw2⟩
      | true =>
        by_cases hh : c.h = 0
        · have d3 : (c.h == 0) = true := by simp [hh]
          have HQ := hide (show ((c.ll : Int) + (c.rl : Int) == 0) = q by rw [← unhide HK, d3]; rfl)
          clear hh HK
          obtain ⟨c0, c1, c2, c3, c4, c5⟩ := T2
          go_wp2_with fail
          go_ret
          exact ⟨ret_bool' (unhide HQ), hw2⟩
        · have d3 : (c.h == 0) = false := by simp [hh]
          have HQ := hide (show false = q by rw [← unhide HK, d3]; rfl)
          clear hh HK
          obtain ⟨c0, c1, c2, c3, c4, c5⟩ := T2
          go_wp2_with fail
          go_ret
          exact ⟨ret_bool' (unhide HQ), hw2⟩
  · rw [right_guard hk hm] at H
    have d1 : (c.k == 1) = false := by simp; omega
    have d2 : (c.k == 2) = false := by simp; omega
    have F := fun W hA => refGuard_any c q W hA hL H
    clear hk H hm hl hr hc hL
    obtain ⟨c0, c1, c2, c3, c4, c5⟩ := T0
    go_enter Tryz.func61, Tryz.ntmps61
    go_wp2_with fail
    refine (F _ hc0).mono ?_
    rintro e w2 ⟨rfl, hb2⟩
    have hw2 := bt hb0 hb2
    clear F hc0 hb0 hb2 c0 c1 c2 c3 c4 c5
    go_wp2_with fail
    go_ret
    exact ⟨rfl, hw2⟩
end Go.Proofs.YtcjnhhbcleljmaaGreatDoor.Sb
namespace Go.Proofs.YtcjnhhbcleljmaaGreatDoor.Sb
open Go.RowKit
open V
open Ex (RowO LiesO flatO liesO_own)

/-- A rule's box. -/
abbrev bxR (r : Rz) : Obj := .cells #[.string r.n, .int .i64 r.p, .slice r.ca r.cl r.cc, .slice r.aa r.al r.ac] 25
theorem rno {r : Rp} (h : rightR r = true → False) : rightR r = false := by
  cases e : rightR r with
  | false => rfl
  | true => exact absurd e (fun e => h e)
theorem no_name {r : Rz} (h : nameB r.n.data.toList = false) : rightR r.pl = false := rno (fun e => by
  have := (right_iff.1 e).1
  rw [show r.pl.1 = r.n.data.toList from rfl, h] at this
  cases this)
theorem no_prio {r : Rz} (h : decide (-1000 ≤ r.p ∧ r.p ≤ 1000) = false) : rightR r.pl = false := rno (fun e => of_decide_eq_false h (right_iff.1 e).2.1)
theorem no_clen {r : Rz} (hl : r.cl = r.cs.length) (h : decide (1 ≤ (r.cl : Int) ∧ (r.cl : Int) ≤ 6) = false) : rightR r.pl = false := rno (fun e => by
  have := (right_iff.1 e).2.2.1
  rw [show r.pl.2.2.1 = r.cs.map Cd.pl from rfl, List.length_map] at this
  exact of_decide_eq_false h (by omega))
theorem no_head {r : Rz} (hk : 0 < r.cs.length) (h : (r.cs[0]'hk).k ≠ 1) : rightR r.pl = false := rno (fun e => by
  have := (right_iff.1 e).2.2.2.1
  rw [show r.pl.2.2.1 = r.cs.map Cd.pl from rfl] at this
  cases hc : r.cs with
  | nil => rw [hc] at hk; simp at hk
  | cons c l =>
    simp only [hc, List.getElem_cons_zero] at h
    rw [hc] at this
    simp only [List.map_cons, List.head?_cons, Option.some.injEq] at this
    exact h this)
theorem no_alen {r : Rz} (hl : r.al = r.zs.length) (h : decide (1 ≤ (r.al : Int) ∧ (r.al : Int) ≤ 6) = false) : rightR r.pl = false := rno (fun e => by
  have := (right_iff.1 e).2.2.2.2.1
  rw [show r.pl.2.2.2 = r.zs.map Az.pl from rfl, List.length_map] at this
  exact of_decide_eq_false h (by omega))
theorem no_cond {r : Rz} {k : Nat} (hk : k < r.cs.length) (h : rightC' r.cs[k].pl = false) : rightR r.pl = false := rno (fun e => by
  have := (right_iff.1 e).2.2.2.2.2.1 r.cs[k].pl (List.mem_map_of_mem (List.getElem_mem hk))
  rw [h] at this; cases this)
theorem no_act {r : Rz} {k : Nat} (hk : k < r.zs.length) (h : rightAct (hasN (r.cs.map Cd.pl)) r.zs[k].pl = false) : rightR r.pl = false := rno (fun e => by
  have := (right_iff.1 e).2.2.2.2.2.2 r.zs[k].pl (List.mem_map_of_mem (List.getElem_mem hk))
  rw [show r.pl.2.2.1 = r.cs.map Cd.pl from rfl, h] at this; cases this)

/-- An act's box. -/
abbrev bxZ (z : Az) : Obj := .cells #[.int .i64 z.k, .string z.n, .slice z.a z.m z.mc, .int .i64 z.wh] 86
structure BZ (W : World) (b : Nat) (z : Az) : Prop where
  c0 : W.cell? ⟨b, 0, none⟩ = some (.int .i64 z.k)
  c1 : W.cell? ⟨b, 1, none⟩ = some (.string z.n)
  c2 : W.cell? ⟨b, 2, none⟩ = some (.slice z.a z.m z.mc)
  c3 : W.cell? ⟨b, 3, none⟩ = some (.int .i64 z.wh)
theorem BZ.on {W w1 : World} {b : Nat} {z : Az} (T : BZ W b z) (hb : Below W.heap.size W w1) : BZ w1 b z :=
  ⟨cell_on hb T.c0, cell_on hb T.c1, cell_on hb T.c2, cell_on hb T.c3⟩
theorem bz_of {W : World} {b : Nat} {z : Az} (h : W.heap[b]? = some (bxZ z)) : BZ W b z :=
  ⟨by rw [Lib.cell_of_heap h]; rfl, by rw [Lib.cell_of_heap h]; rfl, by rw [Lib.cell_of_heap h]; rfl, by rw [Lib.cell_of_heap h]; rfl⟩
theorem act1 {z : Az} {N : Nat} (h : z.k = 1) : rightAct N z.pl = (nameB z.n.data.toList && (decide (z.es.length ≤ 5) && (z.es.all (fun e => exprB e.xs) && decide (z.wh = 0)))) := by
  unfold rightAct Az.pl
  simp only
  rw [if_pos h, List.length_map, List.all_map]
  rfl
theorem act2 {z : Az} {N : Nat} (h : z.k = 2) : rightAct N z.pl = (decide (z.n.size = 0 ∧ z.es.length = 0) && decide (0 ≤ z.wh ∧ z.wh ≤ (N : Int) - 1)) := by
  unfold rightAct Az.pl
  simp only
  rw [if_neg (by omega), decide_eq_true h, Bool.true_and]
  congr 1
  · congr 1
    rw [bytes_nil, List.map_eq_nil_iff, List.length_eq_zero_iff]
  · congr 1
    rw [eq_iff_iff]
    omega
theorem act0 {z : Az} {N : Nat} (h1 : z.k ≠ 1) (h2 : z.k ≠ 2) : rightAct N z.pl = false := by
  unfold rightAct Az.pl
  simp only
  rw [if_neg h1, decide_eq_false h2, Bool.false_and]
theorem less_one {n : Nat} (h : n ≤ 20) : IntKind.i64.wrap ((n : Int) - 1) = (n : Int) - 1 ∧ wrap64 ((n : Int) - 1) = (n : Int) - 1 := by
  refine ⟨?_, ?_⟩
  · simp [IntKind.wrap, IntKind.bits, IntKind.signed]; omega
  · simp [wrap64]; omega

set_option maxHeartbeats 8000000 in
set_option maxRecDepth 20000 in
theorem refRule_any (r : Rz) (w : World) (hr : r.In w) (hL : r.Light) :
    Calls Tryz.prog 17 #[.agg #[.string r.n, .int .i64 r.p, .slice r.ca r.cl r.cc, .slice r.aa r.al r.ac]] w fun e w' => e = .returned (.bool (rightR r.pl)) ∧ Below w.heap.size w w' := by
  have hb0 := below_new w (bxR r)
  have T0 : BR _ _ r := br_of (heap_alloc_new w (bxR r))
  have hr0 := hr.on hb0
  have hcl : r.cl = r.cs.length := by have := hr.c.le; have := hr.c.ge; omega
  have hal : r.al = r.zs.length := by have := hr.a.le; have := hr.a.ge; omega
  clear hr
  obtain ⟨p1, hp1⟩ : ∃ p, nameB r.n.data.toList = p := ⟨_, rfl⟩
  have F1 := fun W => refName_any r.n W (by have := hL.n; unfold maxLen; omega)
  rw [hp1] at F1
  obtain ⟨p2, hp2⟩ : ∃ p, decide (-1000 ≤ r.p ∧ r.p ≤ 1000) = p := ⟨_, rfl⟩
  have F2 := fun W => in9_q r.p (-1000) 1000 p2 W (hide hp2)
  obtain ⟨p3, hp3⟩ : ∃ p, decide (1 ≤ (r.cl : Int) ∧ (r.cl : Int) ≤ 6) = p := ⟨_, rfl⟩
  have F3 := fun W => in9_q r.cl 1 6 p3 W (hide hp3)
  obtain ⟨p4, hp4⟩ : ∃ p, decide (1 ≤ (r.al : Int) ∧ (r.al : Int) ≤ 6) = p := ⟨_, rfl⟩
  have F4 := fun W => in9_q r.al 1 6 p4 W (hide hp4)
  have HCL := hide hcl
  have HAL := hide hal
  clear hcl hal
  cases p1 with
  | false =>
    have HQ := hide (no_name hp1)
    obtain ⟨c0, c1, c2, c3⟩ := T0
    clear hp1 hp2 hp3 hp4 F2 F3 F4
    go_enter Tryz.func17, Tryz.ntmps17
    go_wp2_with fail
    refine (F1 _).mono ?_
    rintro e w2 ⟨rfl, hb2⟩
    have hw2 := bt hb0 hb2
    clear F1 c0 c1 c2 c3 hr0
    go_wp2_with fail
    go_ret
    exact ⟨ret_bool' (unhide HQ).symm, hw2⟩
  | true =>
  have H1 := hide hp1
  clear hp1
  obtain ⟨c0, c1, c2, c3⟩ := T0
  go_enter Tryz.func17, Tryz.ntmps17
  go_wp2_with fail
  refine (F1 _).mono ?_
  rintro e w2 ⟨rfl, hb2⟩
  have hw2 := bt hb0 hb2
  have T2 := (BR.mk (r := r) c0 c1 c2 c3).on hb2
  have hr2 := hr0.on hb2
  clear F1 c0 c1 c2 c3 hr0 hb0 hb2
  obtain ⟨c0, c1, c2, c3⟩ := T2
  cases p2 with
  | false =>
    have HQ := hide (no_prio hp2)
    clear hp2 hp3 hp4 F3 F4
    go_wp2_with (go_at_call 55; refine (F2 _).mono ?_; rintro e w9 ⟨rfl, rfl⟩)
    go_ret
    exact ⟨ret_bool' (unhide HQ).symm, hw2⟩
  | true =>
  have H2 := hide (of_decide_eq_true hp2)
  clear hp2
  cases p3 with
  | false =>
    have HQ := hide (no_clen (unhide HCL) hp3)
    clear hp3 hp4 F4
    go_wp2_with (first | (go_at_call 55; refine (F2 _).mono ?_; rintro e w9 ⟨rfl, rfl⟩; clear F2) | (go_at_call 55; refine (F3 _).mono ?_; rintro e w9 ⟨rfl, rfl⟩; clear F3))
    go_ret
    exact ⟨ret_bool' (unhide HQ).symm, hw2⟩
  | true =>
  have hcl := unhide HCL
  have h3 := of_decide_eq_true hp3
  have hk0 : 0 < r.cs.length := by omega
  obtain ⟨b, o, ha, hbl, e0, -, -, -, -, -⟩ := hr2.c.row.up hk0
  rw [Nat.zero_mul, Nat.add_zero] at e0
  have c2' := c2
  rw [ha] at c2'
  clear hp3 hcl
  have hlt0 : 0 < r.cl := by omega
  have H3 := hide h3
  clear h3
  by_cases hk : (r.cs[0]'hk0).k = 1
  case neg =>
    have HQ := hide (no_head hk0 hk)
    have d1 : ((r.cs[0]'hk0).k != 1) = true := by simp [hk]
    clear hk c2 hp4 F4
    generalize (r.cs[0]'hk0).k = x at e0 d1
    go_wp2_with (first | (go_at_call 55; refine (F2 _).mono ?_; rintro e w9 ⟨rfl, rfl⟩; clear F2) | (go_at_call 55; refine (F3 _).mono ?_; rintro e w9 ⟨rfl, rfl⟩; clear F3))
    go_ret
    exact ⟨ret_bool' (unhide HQ).symm, hw2⟩
  have HK : Hid ((r.cs.map Cd.pl |>.map Prod.fst).head? = some 1) := hide (by
    cases hc : r.cs with
    | nil => rw [hc] at hk0; simp at hk0
    | cons c l => simp only [hc, List.getElem_cons_zero] at hk; simp [Cd.pl, hk])
  have d1 : ((r.cs[0]'hk0).k != 1) = false := by simp [hk]
  clear hk c2
  generalize (r.cs[0]'hk0).k = x at e0 d1
  cases p4 with
  | false =>
    have HQ := hide (no_alen (unhide HAL) hp4)
    clear hp4 HK
    go_wp2_with (first | (go_at_call 55; refine (F2 _).mono ?_; rintro e w9 ⟨rfl, rfl⟩; clear F2) | (go_at_call 55; refine (F3 _).mono ?_; rintro e w9 ⟨rfl, rfl⟩; clear F3) | (go_at_call 55; refine (F4 _).mono ?_; rintro e w9 ⟨rfl, rfl⟩; clear F4))
    go_ret
    exact ⟨ret_bool' (unhide HQ).symm, hw2⟩
  | true =>
  have H4 := hide (of_decide_eq_true hp4)
  clear hp4
  go_wp2_with (first | (go_at_call 55; refine (F2 _).mono ?_; rintro e w9 ⟨rfl, rfl⟩; clear F2) | (go_at_call 55; refine (F3 _).mono ?_; rintro e w9 ⟨rfl, rfl⟩; clear F3) | (go_at_call 55; refine (F4 _).mono ?_; rintro e w9 ⟨rfl, rfl⟩; clear F4))
  have T2 := BR.mk (r := r) c0 c1 (by rw [ha]; exact c2') c3
  clear c0 c1 c2' c3 e0 d1 hbl hlt0 hk0 ha
  have hLc := hL.cs
  have hLz := hL.zs
  clear hL
  go_loopw [3] (fun i wr => ∃ k : Nat, k ≤ r.cl ∧ i = .int .i64 k ∧ Hid (∀ j (_ : j < r.cs.length), j < k → rightC' r.cs[j].pl = true) ∧ Below w9.heap.size w9 wr) (fun i _ => r.cl - (intOf i).toNat)
  case atStart => exact ⟨0, Nat.zero_le _, rfl, hide (fun j _ h => by omega), Below.refl _ _⟩
  case round =>
    obtain ⟨k, hk, rfl, HJ, hbw⟩ := hrel
    have hr3 := hr2.on hbw
    obtain ⟨c0, c1, c2, c3⟩ := T2.on hbw
    by_cases hlt : k < r.cl
    · have hk' : k < r.cs.length := by have := unhide HCL; omega
      obtain ⟨b, o, ha, hbl, e0, e1, e2, e3, e4, e5⟩ := hr3.c.row.up hk'
      have hx := hr3.c.all _ (List.getElem_mem hk')
      have hxL := hLc _ (List.getElem_mem hk')
      have HX : Hid (rightC' r.cs[k].pl = true → ∀ j (_ : j < r.cs.length), j < k + 1 → rightC' r.cs[j].pl = true) := hide (fun h j hj h' => by
        by_cases e : j = k
        · subst e; exact h
        · exact unhide HJ j hj (by omega))
      have HN : Hid (rightC' r.cs[k].pl = false → rightR r.pl = false) := hide (fun h => no_cond hk' h)
      have hw3 := bt hw2 hbw
      rw [ha] at c2
      clear hr3 HJ ha c0 c1 c3 HK
      generalize r.cs[k] = c at e0 e1 e2 e3 e4 e5 hx hxL HX HN
      obtain ⟨q, hq⟩ : ∃ q, rightC' c.pl = q := ⟨_, rfl⟩
      have F := fun W hA => cond_q c q W hA hxL (hide hq)
      go_wp2_with fail
      refine (F _ hx).mono ?_
      rintro e w4 ⟨rfl, hb4⟩
      clear F c2 e0 e1 e2 e3 e4 e5 hx hxL
      cases q with
      | false =>
        have HQ := hide ((unhide HN) hq)
        clear hq
        go_wp2_with fail
        go_ret
        exact ⟨ret_bool' (unhide HQ).symm, bt hw3 hb4⟩
      | true =>
        have HY := hide ((unhide HX) hq)
        have hbw4 := bt hbw hb4
        have h6 := (unhide H3).2
        clear hq HX HN hbw hb4
        go_wp2_with fail
        go_roundw
        case rel => exact ⟨k + 1, by omega, by go_num, HY, hbw4⟩
        case measure => simp [intOf]; omega
    · have HCS : Hid (∀ c ∈ r.pl.2.2.1, rightC' c = true) := hide (fun c hc => by
        obtain ⟨d, hd, rfl⟩ := List.mem_map.1 hc
        obtain ⟨j, hj, rfl⟩ := List.getElem_of_mem hd
        exact unhide HJ j hj (by have := unhide HCL; omega))
      have T3 := BR.mk (r := r) c0 c1 c2 c3
      have hw3 := bt hw2 hbw
      clear HJ hLc hr2 T2 hbw hw2
      go_wp2_with fail
      clear c0 c1 c2 c3 hlt hk
      go_loopw [4] (fun i wx => ∃ k : Nat, k ≤ r.al ∧ i = .int .i64 k ∧ Hid (∀ j (_ : j < r.zs.length), j < k → rightAct (hasN (r.cs.map Cd.pl)) r.zs[j].pl = true) ∧ Below wr.heap.size wr wx) (fun i _ => r.al - (intOf i).toNat)
      case atStart => exact ⟨0, Nat.zero_le _, rfl, hide (fun j _ h => by omega), Below.refl _ _⟩
      case round =>
        obtain ⟨k, hk, rfl, HJ, hbx⟩ := hrel
        have hr4 := hr3.on hbx
        obtain ⟨c0, c1, c2, c3⟩ := T3.on hbx
        have hw4 := bt hw3 hbx
        by_cases hlt : k < r.al
        · have hk' : k < r.zs.length := by have := unhide HAL; omega
          obtain ⟨b, o, ha, hbl, e0, e1, e2, e3⟩ := hr4.a.row.up hk'
          have hx := hr4.a.all _ (List.getElem_mem hk')
          have hxL := hLz _ (List.getElem_mem hk')
          have HX : Hid (rightAct (hasN (r.cs.map Cd.pl)) r.zs[k].pl = true → ∀ j (_ : j < r.zs.length), j < k + 1 → rightAct (hasN (r.cs.map Cd.pl)) r.zs[j].pl = true) := hide (fun h j hj h' => by
            by_cases e : j = k
            · subst e; exact h
            · exact unhide HJ j hj (by omega))
          have HN : Hid (rightAct (hasN (r.cs.map Cd.pl)) r.zs[k].pl = false → rightR r.pl = false) := hide (fun h => no_act hk' h)
          rw [ha] at c3
          clear HJ ha HK HCS
          generalize r.zs[k] = z at e0 e1 e2 e3 hx hxL HX HN
          have hma := LiesE.le hx
          have hmb := LiesE.ge hx
          have hbz := below_new wr (bxZ z)
          have Z0 := bz_of (heap_alloc_new wr (bxZ z))
          have hx0 := Az.In.on hx hbz
          have hr5 := hr4.on hbz
          have hw5 := bt hw4 hbz
          have hbx5 := bt hbx hbz
          have hn2 := hxL.n
          have hm2 := hxL.m
          have h6 := (unhide H4).2
          by_cases hk1 : z.k = 1
          · rw [act1 hk1] at HX HN
            have d1 : (z.k == 1) = true := by simp [hk1]
            clear hk1
            obtain ⟨p, hp⟩ : ∃ p, nameB z.n.data.toList = p := ⟨_, rfl⟩
            have F := fun W => refName_any z.n W (by unfold maxLen; omega)
            rw [hp] at F HX HN
            obtain ⟨x0, x1, x2, x3⟩ := Z0
            go_wp2_with fail
            refine (F _).mono ?_
            rintro e w6 ⟨rfl, hb6⟩
            have Z6 := (BZ.mk (z := z) x0 x1 x2 x3).on hb6
            have hx6 := Az.In.on hx0 hb6
            have hw6 := bt hw5 hb6
            have hbx6 := bt hbx5 hb6
            clear F x0 x1 x2 x3 hx0 hr5 hw5 hbx5 hb6 e0 e1 e2 e3 c0 c1 c2 c3 hr4 hbz hw4 hbx hx d1 hbl
            cases p with
            | false =>
              have HQ := hide ((unhide HN) rfl)
              clear Z6
              go_wp2_with fail
              go_ret
              exact ⟨ret_bool' (unhide HQ).symm, hw6⟩
            | true =>
              obtain ⟨x0, x1, x2, x3⟩ := Z6
              by_cases h5 : 5 < z.m
              · have d5 : decide (5 < (z.m : Int)) = true := by simp; omega
                have HQ := hide ((unhide HN) (by rw [decide_eq_false (show ¬ z.es.length ≤ 5 by omega)]; rfl))
                clear h5 x0 x1 x3
                go_wp2_with fail
                go_ret
                exact ⟨ret_bool' (unhide HQ).symm, hw6⟩
              have d5 : decide (5 < (z.m : Int)) = false := by simp; omega
              have e5 : decide (z.es.length ≤ 5) = true := decide_eq_true (by omega)
              rw [e5] at HX HN
              clear h5 e5
              by_cases h0 : z.wh = 0
              case neg =>
                have d0 : (z.wh != 0) = true := by simp [h0]
                have HQ := hide ((unhide HN) (by rw [decide_eq_false h0]; simp))
                clear h0 x0 x1
                go_wp2_with fail
                go_ret
                exact ⟨ret_bool' (unhide HQ).symm, hw6⟩
              have d0 : (z.wh != 0) = false := by simp [h0]
              rw [decide_eq_true h0] at HX HN
              clear h0
              go_wp2_with fail
              have Z7 := BZ.mk (z := z) x0 x1 x2 x3
              clear d5 d0 x0 x1 x2 x3
              have hes := hxL.e
              go_loopw [6] (fun i wy => ∃ q : Nat, q ≤ z.m ∧ i = .int .i64 q ∧ Hid (∀ j (_ : j < z.es.length), j < q → exprB z.es[j].xs = true) ∧ Below w6.heap.size w6 wy) (fun i _ => z.m - (intOf i).toNat)
              case atStart => exact ⟨0, Nat.zero_le _, rfl, hide (fun j _ h => by omega), Below.refl _ _⟩
              case round =>
                obtain ⟨q, hq, rfl, HU, hby⟩ := hrel
                have hy := Az.In.on hx6 hby
                obtain ⟨x0, x1, x2, x3⟩ := Z7.on hby
                have hwy := bt hw6 hby
                by_cases hqt : q < z.m
                · have hq' : q < z.es.length := by omega
                  obtain ⟨b', o', ha, hbl, f0⟩ := (LiesE.row hy).up hq'
                  have hx' := LiesE.all hy _ (List.getElem_mem hq')
                  have hL' := (hes _ (List.getElem_mem hq')).x
                  have HX' : Hid (exprB z.es[q].xs = true → ∀ j (_ : j < z.es.length), j < q + 1 → exprB z.es[j].xs = true) := hide (fun h j hj h' => by
                    by_cases e : j = q
                    · subst e; exact h
                    · exact unhide HU j hj (by omega))
                  have HN' : Hid (exprB z.es[q].xs = false → rightR r.pl = false) := hide (fun h => (unhide HN) (by
                    have : z.es.all (fun e => exprB e.xs) = false := by
                      rw [List.all_eq_false]
                      exact ⟨_, List.getElem_mem hq', by rw [h]; simp⟩
                    rw [this]; rfl))
                  rw [ha] at x2
                  clear hy HU ha x0 x1 x3
                  generalize z.es[q] = y at f0 hx' hL' HX' HN'
                  obtain ⟨p, hp⟩ : ∃ p, exprB y.xs = p := ⟨_, rfl⟩
                  have F := fun W hA => refExpr_x y.a y.l y.c y.xs p W hA hL' (hide hp)
                  go_wp2_with fail
                  refine (F _ hx').mono ?_
                  rintro e w7 ⟨rfl, hb7⟩
                  clear F x2 f0 hx' hL'
                  cases p with
                  | false =>
                    have HQ := hide ((unhide HN') hp)
                    clear hp
                    go_wp2_with fail
                    go_ret
                    exact ⟨ret_bool' (unhide HQ).symm, bt hwy hb7⟩
                  | true =>
                    have HY := hide ((unhide HX') hp)
                    have hby7 := bt hby hb7
                    clear hp HX' HN' hby hb7
                    go_wp2_with fail
                    go_roundw
                    case rel => exact ⟨q + 1, by omega, by go_num, HY, hby7⟩
                    case measure => simp [intOf]; omega
                · have HY := hide ((unhide HX) (by
                    have : z.es.all (fun e => exprB e.xs) = true := by
                      rw [List.all_eq_true]
                      intro e he
                      obtain ⟨j, hj, rfl⟩ := List.getElem_of_mem he
                      exact unhide HU j hj (by omega)
                    rw [this]; rfl))
                  have hbxy := bt hbx6 hby
                  clear HU HX HN
                  go_wp2_with fail
                  go_roundw
                  case rel => exact ⟨k + 1, by omega, by go_num, HY, hbxy⟩
                  case measure => simp [intOf]; omega
          by_cases hk2 : z.k = 2
          · rw [act2 hk2] at HX HN
            have d1 : (z.k == 1) = false := by simp [hk1]
            have d2 : (z.k == 2) = true := by simp [hk2]
            obtain ⟨s1, s2⟩ := sum_no hn2 hm2
            clear hk1 hk2
            obtain ⟨x0, x1, x2, x3⟩ := Z0
            by_cases hz : z.n.size = 0 ∧ z.m = 0
            case neg =>
              have d3 : decide (0 < (z.n.size : Int) + (z.m : Int)) = true := by simp; omega
              have HQ := hide ((unhide HN) (by rw [decide_eq_false (show ¬ (z.n.size = 0 ∧ z.es.length = 0) by omega)]; rfl))
              clear hz
              go_wp2_with fail
              go_quiet (fail)
              go_wp2_with fail
              go_ret
              exact ⟨ret_bool' (unhide HQ).symm, below_drewN hw5 _⟩
            have d3 : decide (0 < (z.n.size : Int) + (z.m : Int)) = false := by simp; omega
            rw [decide_eq_true (show z.n.size = 0 ∧ z.es.length = 0 by omega), Bool.true_and] at HX HN
            clear hz
            have hcc := hr5.c
            have F1 := fun W hA => has_any r.ca r.cl r.cc r.cs W hA (by have := unhide H3; omega)
            have hN : hasN (r.cs.map Cd.pl) ≤ 20 := Nat.le_trans (hasN_le _) (by have := unhide H3; have := unhide HCL; simp; omega)
            generalize hasN (r.cs.map Cd.pl) = M at hN F1 HX HN
            obtain ⟨s3, s4⟩ := less_one hN
            obtain ⟨p, hp⟩ : ∃ p, decide (0 ≤ z.wh ∧ z.wh ≤ (M : Int) - 1) = p := ⟨_, rfl⟩
            have F2 := fun W => in9_q z.wh 0 ((M : Int) - 1) p W (hide hp)
            rw [hp] at HX HN
            clear hp
            have g2 := cell_on hbz c2
            go_wp2_with fail
            go_quiet (first | (go_at_call 63; refine Calls.quiet_of_same (F1 _ (hcc.on (below_drewN (Below.refl _ _) _)))) | (go_at_call 55; refine Calls.quiet_of_same (F2 _)))
            cases p with
            | false =>
              have HQ := hide ((unhide HN) rfl)
              clear HN HX
              go_wp2_with fail
              go_ret
              exact ⟨ret_bool' (unhide HQ).symm, below_drewN hw5 _⟩
            | true =>
              have HY := hide ((unhide HX) rfl)
              clear HN HX
              go_wp2_with fail
              go_roundw
              case rel => exact ⟨k + 1, by omega, by go_num, HY, below_drewN hbx5 _⟩
              case measure => simp [intOf]; omega
          · have HQ := hide ((unhide HN) (act0 hk1 hk2))
            have d1 : (z.k == 1) = false := by simp [hk1]
            have d2 : (z.k == 2) = false := by simp [hk2]
            obtain ⟨x0, x1, x2, x3⟩ := Z0
            clear hk1 hk2
            go_wp2_with fail
            go_ret
            exact ⟨ret_bool' (unhide HQ).symm, hw5⟩
        · have HR : Hid (rightR r.pl = true) := hide (right_iff.2 ⟨unhide H1, unhide H2, by
              have := unhide H3
              have := unhide HCL
              rw [show r.pl.2.2.1 = r.cs.map Cd.pl from rfl, List.length_map]; omega, unhide HK, by
              have := unhide H4
              have := unhide HAL
              rw [show r.pl.2.2.2 = r.zs.map Az.pl from rfl, List.length_map]; omega, unhide HCS, fun a ha => by
              obtain ⟨d, hd, rfl⟩ := List.mem_map.1 ha
              obtain ⟨j, hj, rfl⟩ := List.getElem_of_mem hd
              exact unhide HJ j hj (by have := unhide HAL; omega)⟩)
          clear HJ
          go_wp2_with fail
          go_ret
          exact ⟨ret_bool' (unhide HR).symm, hw4⟩
end Go.Proofs.YtcjnhhbcleljmaaGreatDoor.Sb

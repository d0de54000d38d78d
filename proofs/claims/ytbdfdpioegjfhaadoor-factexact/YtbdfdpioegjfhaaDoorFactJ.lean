/- The walk of constablelaw03.FactOrder: it answers true, whatever the three facts. -/
import Derived.Test.YtbdfdpioegjfhaaDoorFactI
import Derived.Deep.Cut
namespace Go.Proofs.YtbdfdpioegjfhaaDoor
open Go.RowKit
open V

theorem cell_lt {W : World} {p : Addr} {v : Value} (h : W.cell? p = some v) : p.block < W.heap.size := by
  rcases Nat.lt_or_ge p.block W.heap.size with h' | h'
  · exact h'
  · simp [World.cell?, Array.getElem?_eq_none h'] at h
theorem cell_on {W w1 : World} {p : Addr} {v : Value} (hb : Below W.heap.size W w1) (h : W.cell? p = some v) : w1.cell? p = some v := by
  rw [hb.cell (cell_lt h)]; exact h

/-- Three boxed facts stand in a world, with their arguments. -/
structure Bx3 (W : World) (b : Nat) (f g h : Fb) : Prop where
  a0 : W.cell? ⟨b, 0, none⟩ = some (.string f.n)
  a1 : W.cell? ⟨b, 1, none⟩ = some (.slice f.a f.len f.cap)
  b0 : W.cell? ⟨b + 1, 0, none⟩ = some (.string g.n)
  b1 : W.cell? ⟨b + 1, 1, none⟩ = some (.slice g.a g.len g.cap)
  c0 : W.cell? ⟨b + 1 + 1, 0, none⟩ = some (.string h.n)
  c1 : W.cell? ⟨b + 1 + 1, 1, none⟩ = some (.slice h.a h.len h.cap)
  f : f.In W
  g : g.In W
  h : h.In W
theorem Bx3.on {W w1 : World} {b : Nat} {f g h : Fb} (B : Bx3 W b f g h) (hb : Below W.heap.size W w1) : Bx3 w1 b f g h :=
  ⟨cell_on hb B.a0, cell_on hb B.a1, cell_on hb B.b0, cell_on hb B.b1, cell_on hb B.c0, cell_on hb B.c1, B.f.on hb, B.g.on hb, B.h.on hb⟩
theorem pair_of {W : World} {b : Nat} {x y : Value} {T : TypeId} (h : W.heap[b]? = some (.cells #[x, y] T)) : W.cell? ⟨b, 0, none⟩ = some x ∧ W.cell? ⟨b, 1, none⟩ = some y :=
  ⟨by rw [Lib.cell_of_heap h]; rfl, by rw [Lib.cell_of_heap h]; rfl⟩

/-- The three boxes' objects. -/
abbrev bxO (f : Fb) : Obj := .cells #[.string f.n, .slice f.a f.len f.cap] 24
theorem bx3 (w : World) (f g h : Fb) (hf : f.In w) (hg : g.In w) (hh : h.In w) : Bx3 (((w.alloc (bxO f)).alloc (bxO g)).alloc (bxO h)) w.heap.size f g h := by
  have hb : Below w.heap.size w (((w.alloc (bxO f)).alloc (bxO g)).alloc (bxO h)) := (((Below.refl _ _).alloc (Nat.le_refl _) _).alloc (by simp) _).alloc (by simp; omega) _
  have s1 : (w.alloc (bxO f)).heap.size = w.heap.size + 1 := by simp
  have s2 : ((w.alloc (bxO f)).alloc (bxO g)).heap.size = w.heap.size + 1 + 1 := by simp
  have h3 := heap_alloc_new ((w.alloc (bxO f)).alloc (bxO g)) (bxO h)
  have h2 := heap_alloc_new (w.alloc (bxO f)) (bxO g)
  have h1 := heap_alloc_new w (bxO f)
  rw [s2] at h3
  rw [s1] at h2
  rw [← Lib.alloc_old _ (bxO h) _ (by rw [s2]; omega)] at h2
  rw [← Lib.alloc_old _ (bxO g) _ (by rw [s1]; omega), ← Lib.alloc_old _ (bxO h) _ (by rw [s2]; omega)] at h1
  obtain ⟨x0, x1⟩ := pair_of h1
  obtain ⟨y0, y1⟩ := pair_of h2
  obtain ⟨z0, z1⟩ := pair_of h3
  exact ⟨x0, x1, y0, y1, z0, z1, hf.on hb, hg.on hb, hh.on hb⟩

theorem in_drew (f : Fb) (w : World) : f.In w.drew ↔ f.In w :=
  ⟨fun h => ⟨h.row, h.len⟩, fun h => ⟨h.row, h.len⟩⟩
/-- fact.Compare, with what it leaves as it was. -/
theorem compare_k (f g : Fb) (w : World) (hf : f.In w) (hg : g.In w) (h20 : f.len ≤ 1000) :
    Calls Tryd.prog 12 #[.agg #[.string f.n, .slice f.a f.len f.cap], .agg #[.string g.n, .slice g.a g.len g.cap]] w fun e w' => e = .returned (.int .i64 (cmpF f.l g.l)) ∧ Below w.heap.size w w' ∧ (∀ b o v, w.cell? ⟨b, o, none⟩ = some v → w'.cell? ⟨b, o, none⟩ = some v) ∧ (∀ f : Fb, f.In w → f.In w') := by
  refine (fcompare_fb f g w hf hg h20).mono ?_
  rintro e w' ⟨rfl, hb⟩
  exact ⟨rfl, hb, fun b o v h => cell_on hb h, fun f h => h.on hb⟩

/-- The cells of a row of facts. -/
def flatF : List Fb → List Value
  | [] => []
  | f :: r => .string f.n :: .slice f.a f.len f.cap :: flatF r
theorem flatF_get (fs : List Fb) : ∀ (i : Nat) (f : Fb), fs[i]? = some f → (flatF fs)[i * 2]? = some (.string f.n) ∧ (flatF fs)[i * 2 + 1]? = some (.slice f.a f.len f.cap) := by
  induction fs with
  | nil => intro i v h; simp at h
  | cons x r ih =>
    intro i v h
    cases i with
    | zero => simp at h; subst h; simp [flatF]
    | succ i =>
      have := ih i v (by simpa using h)
      rw [show (i + 1) * 2 = i * 2 + 2 by omega]
      simpa [flatF] using this
theorem rowF_of {w : World} {b : Nat} {fs : List Fb} {T : TypeId} (h : w.heap[b]? = some (.cells (flatF fs).toArray T)) (hin : ∀ f ∈ fs, f.In w) : RowF w (some ⟨b, 0, none⟩) fs := by
  refine ⟨hin, Or.inr ⟨b, 0, rfl, (Array.getElem?_eq_some_iff.1 h).1, fun i v hv => ?_⟩⟩
  obtain ⟨h0, h1⟩ := flatF_get fs i v hv
  rw [Lib.cell_of_heap h, Lib.cell_of_heap h]
  simpa using ⟨h0, h1⟩
/-- A fact's text, the answer by letters. -/
theorem ftext_l (f : Fb) (t : ByteArray) (e : Int) (w : World) (he : Env w) (hf : f.In w) (hl : f.Light) (H : Hid ((if rightF f.l then ⟨(textF f.l).toArray⟩ else ⟨#[]⟩) = t ∧ chk (rightF f.l) = e)) :
    Calls Tryd.prog 9 #[.agg #[.string f.n, .slice f.a f.len f.cap]] w fun r w' => r = .returned (.tuple #[.string t, .int .i64 e]) ∧ Below w.heap.size w w' := by
  have := ftext_fb f w he hf hl
  rw [(unhide H).1, (unhide H).2] at this
  exact this
abbrev rowO (fs : List Fb) : Obj := .cells (flatF fs).toArray 24
/-- Two rows laid one behind the other. -/
theorem rows_two (w : World) (fs gs : List Fb) (hf : ∀ f ∈ fs, f.In w) (hg : ∀ f ∈ gs, f.In w) :
    RowF ((w.alloc (rowO fs)).alloc (rowO gs)) (some ⟨w.heap.size, 0, none⟩) fs ∧ RowF ((w.alloc (rowO fs)).alloc (rowO gs)) (some ⟨w.heap.size + 1, 0, none⟩) gs ∧ Below w.heap.size w ((w.alloc (rowO fs)).alloc (rowO gs)) := by
  have hb : Below w.heap.size w ((w.alloc (rowO fs)).alloc (rowO gs)) := ((Below.refl _ _).alloc (Nat.le_refl _) _).alloc (by simp) _
  have h1 := heap_alloc_new w (rowO fs)
  have h2 := heap_alloc_new (w.alloc (rowO fs)) (rowO gs)
  have s1 : (w.alloc (rowO fs)).heap.size = w.heap.size + 1 := by simp
  rw [s1] at h2
  rw [← Lib.alloc_old _ (rowO gs) _ (by rw [s1]; omega)] at h1
  exact ⟨rowF_of h1 (fun f h => (hf f h).on hb), rowF_of h2 (fun f h => (hg f h).on hb), hb⟩
theorem lists_l (a a' : Option Addr) (len len' cap cap' : Nat) (xs ys : List Fb) (x : Int) (w : World) (hr : RowF w a xs) (hr' : RowF w a' ys) (hl : len = xs.length) (hm : len' = ys.length) (h20 : len ≤ 1000) (hx20 : ∀ f ∈ xs, f.len ≤ 1000) (H : Hid (lexL cmpF (xs.map Fb.l) (ys.map Fb.l) = x)) :
    Calls Tryd.prog 14 #[.slice a len cap, .slice a' len' cap'] w fun e w' => e = .returned (.int .i64 x) ∧ Below w.heap.size w w' := by
  have := lists_any a a' len len' cap cap' xs ys w hr hr' hl hm h20 hx20
  rw [unhide H] at this
  exact this

set_option maxHeartbeats 4000000 in
set_option maxRecDepth 100000 in
theorem order_walk (f g h : Fb) (w : World) (he : Env w) (hf : f.In w) (hg : g.In w) (hh : h.In w) (x y z : Int)
    (HX : Hid (cmpF f.l g.l = x)) (HY : Hid (cmpF g.l h.l = y)) (HZ : Hid (cmpF f.l h.l = z)) (HB : Hid (cmpF g.l f.l = -x)) (HE : Hid (decide (f.l = g.l) = (x == 0)))
    (hx : x = 1 ∨ x = -1 ∧ decide (0 < y) = true ∨ x = -1 ∧ decide (0 < y) = false ∧ decide (z ≤ 0) = true ∧ decide (z < 0) = true ∨ x = 0 ∧ decide (0 < y) = true ∨ x = 0 ∧ decide (0 < y) = false ∧ decide (z ≤ 0) = true)
    (ta tb : ByteArray) (ea eb : Int) (HTA : Hid ((if rightF f.l then ⟨(textF f.l).toArray⟩ else ⟨#[]⟩) = ta ∧ chk (rightF f.l) = ea)) (HTB : Hid ((if rightF g.l then ⟨(textF g.l).toArray⟩ else ⟨#[]⟩) = tb ∧ chk (rightF g.l) = eb))
    (hq : (ea != 0) = true ∨ (ea != 0) = false ∧ (eb != 0) = true ∨ (ea != 0) = false ∧ (eb != 0) = false ∧ (ta.toList == tb.toList) = (x == 0))
    (H1 : Hid (lexL cmpF ([f].map Fb.l) ([g].map Fb.l) = x)) (H2 : Hid (lexL cmpF ([h, f].map Fb.l) ([h, g].map Fb.l) = x)) (H3 : Hid (lexL cmpF ([f].map Fb.l) ([f, g].map Fb.l) = -1)) :
    Calls Tryd.prog 4 #[.agg #[.string f.n, .slice f.a f.len f.cap], .agg #[.string g.n, .slice g.a g.len g.cap], .agg #[.string h.n, .slice h.a h.len h.cap]] w fun e w' => e = .returned (.bool true) ∧ Below w.heap.size w w' := by
  have hB := bx3 w f g h hf hg hh
  have hbW : Below w.heap.size w (((w.alloc (bxO f)).alloc (bxO g)).alloc (bxO h)) := (((Below.refl _ _).alloc (Nat.le_refl _) _).alloc (by simp) _).alloc (by simp; omega) _
  go_enter Tryd.func4, Tryd.ntmps4
  go_wp2_with fail
  generalize (((w.alloc (bxO f)).alloc (bxO g)).alloc (bxO h)) = W at *
  refine (heavy_fb f W hB.f).mono ?_
  rintro e w1 ⟨rfl | ⟨rfl, lf⟩, hb1⟩
  · go_wp2_with fail
    go_ret
    exact ⟨rfl, bt hbW hb1⟩
  have hB1 := hB.on hb1
  have hw1 := bt hbW hb1
  clear hB hbW hb1
  obtain ⟨a0, a1, b0, b1, c0, c1, if1, ig1, ih1⟩ := hB1
  go_wp2_with fail
  refine (heavy_fb g w1 ig1).mono ?_
  rintro e w2 ⟨rfl | ⟨rfl, lg⟩, hb2⟩
  · go_wp2_with fail
    go_ret
    exact ⟨rfl, bt hw1 hb2⟩
  have hB2 : Bx3 w2 w.heap.size f g h := (Bx3.mk a0 a1 b0 b1 c0 c1 if1 ig1 ih1).on hb2
  have hw2 := bt hw1 hb2
  clear a0 a1 b0 b1 c0 c1 if1 ig1 ih1 hw1 hb2
  obtain ⟨a0, a1, b0, b1, c0, c1, if2, ig2, ih2⟩ := hB2
  go_wp2_with fail
  refine (heavy_fb h w2 ih2).mono ?_
  rintro e w3 ⟨rfl | ⟨rfl, lh⟩, hb3⟩
  · go_wp2_with fail
    go_ret
    exact ⟨rfl, bt hw2 hb3⟩
  have hB3 : Bx3 w3 w.heap.size f g h := (Bx3.mk a0 a1 b0 b1 c0 c1 if2 ig2 ih2).on hb3
  have hw3 := bt hw2 hb3
  clear a0 a1 b0 b1 c0 c1 if2 ig2 ih2 hw2 hb3
  obtain ⟨a0, a1, b0, b1, c0, c1, if3, ig3, ih3⟩ := hB3
  have lf20 : f.len ≤ 1000 := by have := lf.len; omega
  have lg20 : g.len ≤ 1000 := by have := lg.len; omega
  have hdr := in_drew
  go_wp2_with fail
  go_region_held3 (fun w' => w'.cell? ⟨w.heap.size, 0, none⟩ = some (.string f.n) ∧ w'.cell? ⟨w.heap.size, 1, none⟩ = some (.slice f.a f.len f.cap) ∧ w'.cell? ⟨w.heap.size + 1, 0, none⟩ = some (.string g.n) ∧ w'.cell? ⟨w.heap.size + 1, 1, none⟩ = some (.slice g.a g.len g.cap) ∧ w'.cell? ⟨w.heap.size + 1 + 1, 0, none⟩ = some (.string h.n) ∧ w'.cell? ⟨w.heap.size + 1 + 1, 1, none⟩ = some (.slice h.a h.len h.cap) ∧ f.In w' ∧ g.In w' ∧ h.In w') (go_keep) (first | (go_at_call 12; refine (compare_k _ _ _ (by simp [*]) (by simp [*]) (by assumption)).mono ?_; rintro e w' ⟨rfl, hb, hk, hi⟩; (first | rw [unhide HX] | rw [unhide HY] | rw [unhide HZ])))
  rename_i w4 hb4 hk4 hi4 w5 hb5 hk5 hi5 hS
  have hw6 : Below w.heap.size w w' := bt (bt (bt hw3.drew hb4) hb5) hb
  clear a0 a1 b0 b1 c0 c1 if3 ig3 ih3 hk4 hi4 hk5 hi5 hk hi hb4 hb5 hb hw3
  obtain ⟨a0, a1, b0, b1, c0, c1, if6, ig6, ih6⟩ := hS
  go_upto_region 4 with fail
  go_cut [73] from 16 (fun c wx => c = .bool false ∧ Bx3 wx w.heap.size f g h ∧ Below w.heap.size w wx)
  case first =>
    rcases hx with rfl | ⟨rfl, hy⟩ | ⟨rfl, hy, hz, hz'⟩ | ⟨rfl, hy⟩ | ⟨rfl, hy, hz⟩
    all_goals
      go_wp2_with fail
      refine (compare_k g f _ ig6 if6 lg20).mono ?_
      rintro e w7 ⟨rfl, hb7, _, _⟩
      rw [unhide HB]
      have hB7 : Bx3 w7 w.heap.size f g h := (Bx3.mk a0 a1 b0 b1 c0 c1 if6 ig6 ih6).on hb7
      obtain ⟨a0, a1, b0, b1, c0, c1, if7, ig7, ih7⟩ := hB7
      go_wp2_with fail
      refine (keepFact_fb f g _ if7 ig7 lf20).mono ?_
      rintro e w8 ⟨rfl, hb8⟩
      rw [unhide HE]
      go_wp2_with fail
      go_meet
      exact ⟨rfl, (Bx3.mk a0 a1 b0 b1 c0 c1 if7 ig7 ih7).on hb8, bt (bt hw6 hb7) hb8⟩
  case rest =>
    clear a0 a1 b0 b1 c0 c1 if6 ig6 ih6 hw6 hx HX HY HZ HB hf hg hh hdr
    obtain ⟨rfl, ⟨a0, a1, b0, b1, c0, c1, if6, ig6, ih6⟩, hwc⟩ := hcut
    have lc : w.heap.size + 1 + 1 < wc.heap.size := cell_lt c0
    have lb : w.heap.size + 1 < wc.heap.size := cell_lt b0
    have la : w.heap.size < wc.heap.size := cell_lt a0
    obtain ⟨r1, r2, hb7⟩ := rows_two wc [f] [g] (by simpa using if6) (by simpa using ig6)
    have t8 := lists_l (some ⟨wc.heap.size, 0, none⟩) (some ⟨wc.heap.size + 1, 0, none⟩) 1 1 1 1 [f] [g] x _ r1 r2 rfl rfl (by omega) (by simpa using lf20) H1
    have hB7 : Bx3 ((wc.alloc (rowO [f])).alloc (rowO [g])) w.heap.size f g h := (Bx3.mk a0 a1 b0 b1 c0 c1 if6 ig6 ih6).on hb7
    have hw7 := bt hwc hb7
    clear r1 r2 hwc hb7
    go_wp2_with fail
    refine t8.mono ?_
    rintro e w8 ⟨rfl, hb8⟩
    have hB8 := hB7.on hb8
    have hw8 := bt hw7 hb8
    clear hB7 hb8 hw7 t8 a0 a1 b0 b1 c0 c1 if6 ig6 ih6
    obtain ⟨a0, a1, b0, b1, c0, c1, if8, ig8, ih8⟩ := hB8
    have lc : w.heap.size + 1 + 1 < w8.heap.size := cell_lt c0
    have lb : w.heap.size + 1 < w8.heap.size := cell_lt b0
    have la : w.heap.size < w8.heap.size := cell_lt a0
    obtain ⟨r1, r2, hb9⟩ := rows_two w8 [h, f] [h, g] (by simpa using ⟨ih8, if8⟩) (by simpa using ⟨ih8, ig8⟩)
    have lh20 : h.len ≤ 1000 := by have := lh.len; omega
    have t10 := lists_l (some ⟨w8.heap.size, 0, none⟩) (some ⟨w8.heap.size + 1, 0, none⟩) 2 2 2 2 [h, f] [h, g] x _ r1 r2 rfl rfl (by omega) (by simpa using ⟨lh20, lf20⟩) H2
    have hB9 : Bx3 ((w8.alloc (rowO [h, f])).alloc (rowO [h, g])) w.heap.size f g h := (Bx3.mk a0 a1 b0 b1 c0 c1 if8 ig8 ih8).on hb9
    have hw9 := bt hw8 hb9
    clear r1 r2 hb9 hw8
    go_wp2_with fail
    refine t10.mono ?_
    rintro e w10 ⟨rfl, hb10⟩
    have hB10 := hB9.on hb10
    have hw10 := bt hw9 hb10
    clear hB9 hb10 hw9 t10 a0 a1 b0 b1 c0 c1 if8 ig8 ih8
    obtain ⟨a0, a1, b0, b1, c0, c1, if8, ig8, ih8⟩ := hB10
    have lc : w.heap.size + 1 + 1 < w10.heap.size := cell_lt c0
    have lb : w.heap.size + 1 < w10.heap.size := cell_lt b0
    have la : w.heap.size < w10.heap.size := cell_lt a0
    obtain ⟨r1, r2, hb9⟩ := rows_two w10 [f] [f, g] (by simpa using if8) (by simpa using ⟨if8, ig8⟩)
    have t11 := lists_l (some ⟨w10.heap.size, 0, none⟩) (some ⟨w10.heap.size + 1, 0, none⟩) 1 2 1 2 [f] [f, g] (-1) _ r1 r2 rfl rfl (by omega) (by simpa using lf20) H3
    have hB9 : Bx3 ((w10.alloc (rowO [f])).alloc (rowO [f, g])) w.heap.size f g h := (Bx3.mk a0 a1 b0 b1 c0 c1 if8 ig8 ih8).on hb9
    have hw9 := bt hw10 hb9
    clear r1 r2 hb9 hw10
    go_wp2_with fail
    refine t11.mono ?_
    rintro e w11 ⟨rfl, hb11⟩
    have hB11 := hB9.on hb11
    have hw11 := bt hw9 hb11
    clear hB9 hb11 hw9 t11 a0 a1 b0 b1 c0 c1 if8 ig8 ih8
    obtain ⟨a0, a1, b0, b1, c0, c1, if8, ig8, ih8⟩ := hB11
    go_wp2_with fail
    refine (ftext_l f ta ea _ (he.on hw11) if8 lf HTA).mono ?_
    rintro e w12 ⟨rfl, hb12⟩
    have hB12 : Bx3 w12 w.heap.size f g h := (Bx3.mk a0 a1 b0 b1 c0 c1 if8 ig8 ih8).on hb12
    have hw12 := bt hw11 hb12
    clear hb12 hw11 a0 a1 b0 b1 c0 c1 if8 ig8 ih8
    obtain ⟨a0, a1, b0, b1, c0, c1, if8, ig8, ih8⟩ := hB12
    go_wp2_with fail
    refine (ftext_l g tb eb _ (he.on hw12) ig8 lg HTB).mono ?_
    rintro e w13 ⟨rfl, hb13⟩
    have hB13 : Bx3 w13 w.heap.size f g h := (Bx3.mk a0 a1 b0 b1 c0 c1 if8 ig8 ih8).on hb13
    have hw13 := bt hw12 hb13
    clear hb13 hw12 a0 a1 b0 b1 c0 c1 if8 ig8 ih8
    obtain ⟨a0, a1, b0, b1, c0, c1, if8, ig8, ih8⟩ := hB13
    rcases hq with hq | ⟨hq, hq'⟩ | ⟨hq, hq', hq''⟩
    · go_wp2_with fail
      refine (wakes_any _ (he.on hw13)).mono ?_
      rintro e w14 ⟨rfl, hb14⟩
      go_wp2_with fail
      go_ret
      exact ⟨rfl, bt hw13 hb14⟩
    · go_wp2_with fail
      refine (wakes_any _ (he.on hw13)).mono ?_
      rintro e w14 ⟨rfl, hb14⟩
      go_wp2_with fail
      go_ret
      exact ⟨rfl, bt hw13 hb14⟩
    · go_wp2_with fail
      refine (keepFact_fb f g _ if8 ig8 lf20).mono ?_
      rintro e w14 ⟨rfl, hb14⟩
      rw [unhide HE]
      have hw14 := bt hw13 hb14
      go_wp2_with fail
      refine (wakes_any _ (he.on hw14)).mono ?_
      rintro e w15 ⟨rfl, hb15⟩
      go_wp2_with fail
      go_ret
      exact ⟨rfl, bt hw14 hb15⟩

theorem lex_one {α : Type} {c : α → α → Int} (a b : α) : lexL c [a] [b] = c a b := by
  by_cases h : c a b = 0
  · rw [lexL_eq h, h]; rfl
  · rw [lexL_ne h]

theorem order_any (f g h : Fb) (w : World) (he : Env w) (hf : f.In w) (hg : g.In w) (hh : h.In w) :
    Calls Tryd.prog 4 #[.agg #[.string f.n, .slice f.a f.len f.cap], .agg #[.string g.n, .slice g.a g.len g.cap], .agg #[.string h.n, .slice h.a h.len h.cap]] w fun e w' => e = .returned (.bool true) ∧ Below w.heap.size w w' := by
  have O := ord_fact
  have tx := O.tri f.l g.l
  have ty := O.tri g.l h.l
  have zx := O.zero f.l g.l
  have zy := O.zero g.l h.l
  have zf : cmpF f.l f.l = 0 := (O.zero _ _).2 rfl
  have zh : cmpF h.l h.l = 0 := (O.zero _ _).2 rfl
  have htr := O.trans f.l g.l h.l
  refine order_walk f g h w he hf hg hh (cmpF f.l g.l) (cmpF g.l h.l) (cmpF f.l h.l) (hide rfl) (hide rfl) (hide rfl) (hide (O.anti _ _)) (hide ?_) ?_ _ _ _ _ (hide ⟨rfl, rfl⟩) (hide ⟨rfl, rfl⟩) ?_ (hide ?_) (hide ?_) (hide ?_)
  · by_cases e : f.l = g.l
    · rw [decide_eq_true e, zx.2 e]; rfl
    · rw [decide_eq_false e]; exact (beq_eq_false_iff_ne.2 (fun h => e (zx.1 h))).symm
  · simp only [decide_eq_true_eq, decide_eq_false_iff_not]
    rcases tx with tx | tx | tx
    · rcases ty with ty | ty | ty
      · have := htr tx ty
        omega
      · have e := zy.1 ty
        rw [← e]
        omega
      · omega
    · have e := zx.1 tx
      rw [e]
      have z0 := (O.zero g.l g.l).2 rfl
      omega
    · omega
  · cases ra : rightF f.l with
    | false => exact Or.inl rfl
    | true =>
      cases rb : rightF g.l with
      | false => exact Or.inr (Or.inl ⟨rfl, rfl⟩)
      | true =>
        refine Or.inr (Or.inr ⟨rfl, rfl, ?_⟩)
        simp only [if_true, ByteArray.toList_eq]
        by_cases e : f.l = g.l
        · rw [e, (O.zero g.l g.l).2 rfl]; simp
        · have h1 : (cmpF f.l g.l == 0) = false := beq_eq_false_iff_ne.2 (fun h => e (zx.1 h))
          rw [h1]
          exact beq_eq_false_iff_ne.2 (fun h => e (textF_inj ra rb h))
  · exact lex_one _ _
  · show lexL cmpF [h.l, f.l] [h.l, g.l] = _
    rw [lexL_eq zh]; exact lex_one _ _
  · show lexL cmpF [f.l] [f.l, g.l] = _
    rw [lexL_eq zf]; rfl
end Go.Proofs.YtbdfdpioegjfhaaDoor

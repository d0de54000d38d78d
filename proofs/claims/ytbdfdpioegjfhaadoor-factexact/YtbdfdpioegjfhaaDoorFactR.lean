/- The walk of constablelaw03.FactExact: it answers true, whatever the facts, the lists, the text. -/
import Derived.Test.YtbdfdpioegjfhaaDoorFactO
namespace Go.Proofs.YtbdfdpioegjfhaaDoor
open Go.RowKit
open V

/-- What a call that only adds to memory leaves as it was. -/
theorem kept {F : FuncId} {args : Array Value} {w : World} {Q : Ending → Prop} (h : Calls Tryd.prog F args w fun e w' => Q e ∧ Below w.heap.size w w') :
    Calls Tryd.prog F args w fun e w' => Q e ∧ Below w.heap.size w w' ∧ (∀ b o v, w.cell? ⟨b, o, none⟩ = some v → w'.cell? ⟨b, o, none⟩ = some v) ∧ (∀ f : Fb, f.In w → f.In w') ∧ (∀ a fs, RowF w a fs → RowF w' a fs) := by
  refine h.mono ?_
  rintro e w' ⟨hq, hb⟩
  exact ⟨hq, hb, fun b o v h => cell_on hb h, fun f h => h.on hb, fun a fs h => h.on hb⟩
theorem rowF_drew (a : Option Addr) (fs : List Fb) (w : World) : RowF w.drew a fs ↔ RowF w a fs :=
  ⟨fun h => ⟨fun f hf => (in_drew f w).1 (h.1 f hf), h.2⟩, fun h => ⟨fun f hf => (in_drew f w).2 (h.1 f hf), h.2⟩⟩

/-- The two boxed facts of the law, with all that it is handed. -/
structure Bx2 (W : World) (b : Nat) (f g : Fb) (al am : Option Addr) (xs ys : List Fb) : Prop where
  a0 : W.cell? ⟨b, 0, none⟩ = some (.string f.n)
  a1 : W.cell? ⟨b, 1, none⟩ = some (.slice f.a f.len f.cap)
  b0 : W.cell? ⟨b + 1, 0, none⟩ = some (.string g.n)
  b1 : W.cell? ⟨b + 1, 1, none⟩ = some (.slice g.a g.len g.cap)
  f : f.In W
  g : g.In W
  xs : RowF W al xs
  ys : RowF W am ys
theorem Bx2.on {W w1 : World} {b : Nat} {f g : Fb} {al am : Option Addr} {xs ys : List Fb} (B : Bx2 W b f g al am xs ys) (hb : Below W.heap.size W w1) : Bx2 w1 b f g al am xs ys :=
  ⟨cell_on hb B.a0, cell_on hb B.a1, cell_on hb B.b0, cell_on hb B.b1, B.f.on hb, B.g.on hb, B.xs.on hb, B.ys.on hb⟩
theorem bx2 (w : World) (f g : Fb) (al am : Option Addr) (xs ys : List Fb) (hf : f.In w) (hg : g.In w) (hx : RowF w al xs) (hy : RowF w am ys) : Bx2 ((w.alloc (bxO f)).alloc (bxO g)) w.heap.size f g al am xs ys := by
  have hb : Below w.heap.size w ((w.alloc (bxO f)).alloc (bxO g)) := ((Below.refl _ _).alloc (Nat.le_refl _) _).alloc (by simp) _
  have s1 : (w.alloc (bxO f)).heap.size = w.heap.size + 1 := by simp
  have h2 := heap_alloc_new (w.alloc (bxO f)) (bxO g)
  have h1 := heap_alloc_new w (bxO f)
  rw [s1] at h2
  rw [← Lib.alloc_old _ (bxO g) _ (by rw [s1]; omega)] at h1
  obtain ⟨x0, x1⟩ := pair_of h1
  obtain ⟨y0, y1⟩ := pair_of h2
  exact ⟨x0, x1, y0, y1, hf.on hb, hg.on hb, hx.on hb, hy.on hb⟩

theorem compare_x (f g : Fb) (x : Int) (w : World) (hf : f.In w) (hg : g.In w) (h20 : f.len ≤ 1000) (H : Hid (cmpF f.l g.l = x)) :
    Calls Tryd.prog 12 #[.agg #[.string f.n, .slice f.a f.len f.cap], .agg #[.string g.n, .slice g.a g.len g.cap]] w fun e w' => e = .returned (.int .i64 x) ∧ Below w.heap.size w w' := by
  have := fcompare_fb f g w hf hg h20
  rw [unhide H] at this
  exact this
theorem refFacts_x (f g : Fb) (x : Int) (w : World) (lf : f.Light) (lg : g.Light) (hf : f.In w) (hg : g.In w) (H : Hid (cmpF f.l g.l = x)) :
    Calls Tryd.prog 13 #[.agg #[.string f.n, .slice f.a f.len f.cap], .agg #[.string g.n, .slice g.a g.len g.cap]] w fun e w' => e = .returned (.int .i64 x) ∧ Below w.heap.size w w' := by
  have := refFacts_any f.n g.n f.a g.a f.len g.len f.cap g.cap f.vs g.vs w lf.n lg.n lf.vs lg.vs hf.row hg.row (by rw [hf.len]; omega) (by rw [hf.len]; omega) (by rw [hg.len]; omega) (by rw [hg.len]; omega) (by have := lf.len; omega)
  rw [show cmpF (f.n.data.toList, f.vs.map Vb.l) (g.n.data.toList, g.vs.map Vb.l) = x from unhide H] at this
  exact this
theorem refLists_x (a a' : Option Addr) (len len' cap cap' : Nat) (xs ys : List Fb) (x : Int) (w : World) (hr : RowF w a xs) (hr' : RowF w a' ys) (hl : len = xs.length) (hm : len' = ys.length) (h20 : len ≤ 1000) (hx : ∀ f ∈ xs, f.Light) (hy : ∀ f ∈ ys, f.Light) (H : Hid (lexL cmpF (xs.map Fb.l) (ys.map Fb.l) = x)) :
    Calls Tryd.prog 15 #[.slice a len cap, .slice a' len' cap'] w fun e w' => e = .returned (.int .i64 x) ∧ Below w.heap.size w w' := by
  have := refLists_any a a' len len' cap cap' xs ys w hr hr' (by omega) (by omega) (by omega) (by omega) h20 hx hy
  rw [unhide H] at this
  exact this
theorem keepFact_t (f g : Fb) (w : World) (hf : f.In w) (hg : g.In w) (h20 : f.len ≤ 1000) (H : Hid (f.l = g.l)) :
    Calls Tryd.prog 16 #[.agg #[.string f.n, .slice f.a f.len f.cap], .agg #[.string g.n, .slice g.a g.len g.cap]] w fun e w' => e = .returned (.bool true) ∧ Below w.heap.size w w' := by
  have := keepFact_fb f g w hf hg h20
  rw [decide_eq_true (unhide H)] at this
  exact this
theorem name_q (s : ByteArray) (q : Bool) (w : World) (hs : s.size ≤ 200) (H : Hid (nameB s.data.toList = q)) :
    Calls Tryd.prog 10 #[.string s] w fun e w' => e = .returned (.bool q) ∧ Below w.heap.size w w' := by
  have := name_any s w (by unfold maxLen; omega)
  rw [unhide H] at this
  exact this
theorem refName_q (s : ByteArray) (q : Bool) (w : World) (hs : s.size ≤ 200) (H : Hid (nameB s.data.toList = q)) :
    Calls Tryd.prog 11 #[.string s] w fun e w' => e = .returned (.bool q) ∧ Below w.heap.size w w' := by
  have := refName_any s w (by unfold maxLen; omega)
  rw [unhide H] at this
  exact this
theorem refFact_q (f : Fb) (q : Bool) (w : World) (hf : f.In w) (hl : f.Light) (H : Hid (rightF f.l = q)) :
    Calls Tryd.prog 17 #[.agg #[.string f.n, .slice f.a f.len f.cap]] w fun e w' => e = .returned (.bool q) ∧ Below w.heap.size w w' := by
  have := refFact_any f.n f.a f.len f.cap f.vs w hl.n hl.vs hf.row (by rw [hf.len]; omega) (by rw [hf.len]; omega) hl.len
  rw [show rightF (f.n.data.toList, f.vs.map Vb.l) = q from unhide H] at this
  exact this
theorem fcheck_x (f : Fb) (x : Int) (w : World) (hf : f.In w) (hl : f.Light) (H : Hid (chk (rightF f.l) = x)) :
    Calls Tryd.prog 18 #[.agg #[.string f.n, .slice f.a f.len f.cap]] w fun e w' => e = .returned (.int .i64 x) ∧ Below w.heap.size w w' := by
  have := fcheck_fb f w hf hl
  rw [unhide H] at this
  exact this
theorem refFText_x (f : Fb) (t : ByteArray) (w : World) (hf : f.In w) (hl : f.Light) (hr : rightF f.l = true) (H : Hid (⟨(textF f.l).toArray⟩ = t)) :
    Calls Tryd.prog 20 #[.agg #[.string f.n, .slice f.a f.len f.cap]] w fun e w' => e = .returned (.string t) ∧ Below w.heap.size w w' := by
  have := refFText_any f.n f.a f.len f.cap f.vs w hl.n hl.vs hf.row (by rw [hf.len]; omega) (by rw [hf.len]; omega) hr
  rw [show (⟨(textF (f.n.data.toList, f.vs.map Vb.l)).toArray⟩ : ByteArray) = t from unhide H] at this
  exact this

set_option maxHeartbeats 8000000 in
set_option maxRecDepth 100000 in
theorem exact_walk (f g : Fb) (al am : Option Addr) (ll lm cl cm : Nat) (xs ys : List Fb) (s : ByteArray) (w : World) (he : Env w) (hf : f.In w) (hg : g.In w) (hx : RowF w al xs) (hy : RowF w am ys) (hll : ll ≤ xs.length) (hll' : xs.length ≤ ll) (hlm : lm ≤ ys.length) (hlm' : ys.length ≤ lm) (hnil : f.a = none → f.cap = 0)
    (x z : Int) (q : Bool) (ta : ByteArray) (ea : Int) (HX : Hid (cmpF f.l g.l = x)) (HZ : Hid (lexL cmpF (xs.map Fb.l) (ys.map Fb.l) = z)) (HQ : Hid (nameB s.data.toList = q))
    (HT : Hid ((if rightF f.l then ⟨(textF f.l).toArray⟩ else ⟨#[]⟩) = ta ∧ chk (rightF f.l) = ea)) :
    Calls Tryd.prog 3 #[.agg #[.string f.n, .slice f.a f.len f.cap], .agg #[.string g.n, .slice g.a g.len g.cap], .slice al ll cl, .slice am lm cm, .string s] w fun e w' => e = .returned (.bool true) ∧ Below w.heap.size w w' := by
  have hB := bx2 w f g al am xs ys hf hg hx hy
  have hbW : Below w.heap.size w ((w.alloc (bxO f)).alloc (bxO g)) := ((Below.refl _ _).alloc (Nat.le_refl _) _).alloc (by simp) _
  clear hf hg hx hy
  go_enter Tryd.func3, Tryd.ntmps3
  go_wp2_with fail
  generalize (w.alloc (bxO f)).alloc (bxO g) = W at *
  refine (heavy_fb f W hB.f).mono ?_
  rintro e w1 ⟨rfl | ⟨rfl, lf⟩, hb1⟩
  · go_wp2_with fail
    go_ret
    exact ⟨rfl, bt hbW hb1⟩
  have hB1 := hB.on hb1
  have hw1 := bt hbW hb1
  clear hB hbW hb1
  obtain ⟨a0, a1, b0, b1, if1, ig1, ix1, iy1⟩ := hB1
  go_wp2_with fail
  refine (heavy_fb g w1 ig1).mono ?_
  rintro e w2 ⟨rfl | ⟨rfl, lg⟩, hb2⟩
  · go_wp2_with fail
    go_ret
    exact ⟨rfl, bt hw1 hb2⟩
  have hB2 : Bx2 w2 w.heap.size f g al am xs ys := (Bx2.mk a0 a1 b0 b1 if1 ig1 ix1 iy1).on hb2
  have hw2 := bt hw1 hb2
  clear a0 a1 b0 b1 if1 ig1 ix1 iy1 hw1 hb2
  go_wp2_with fail
  refine (many_any al ll cl xs w2 hB2.xs hll hll').mono ?_
  rintro e w3 ⟨rfl | ⟨rfl, l60, lx⟩, hb3⟩
  · go_wp2_with fail
    go_ret
    exact ⟨rfl, bt hw2 hb3⟩
  have hB3 := hB2.on hb3
  have hw3 := bt hw2 hb3
  clear hB2 hb3 hw2
  go_wp2_with fail
  refine (many_any am lm cm ys w3 hB3.ys hlm hlm').mono ?_
  rintro e w4 ⟨rfl | ⟨rfl, m60, ly⟩, hb4⟩
  · go_wp2_with fail
    go_ret
    exact ⟨rfl, bt hw3 hb4⟩
  have hB4 := hB3.on hb4
  have hw4 := bt hw3 hb4
  clear hB3 hb4 hw3
  by_cases hs : 200 < s.size
  · go_wp2_with fail
    go_ret
    exact ⟨rfl, hw4⟩
  obtain ⟨a0, a1, b0, b1, if4, ig4, ix4, iy4⟩ := hB4
  go_wp2_with fail
  refine (twin_fb f w4 if4 hnil lf.len).mono ?_
  rintro e w5 ⟨h, rfl, ih5, hn5, hv5, hb5⟩
  have HL : Hid (h.l = f.l) := by
    show _ = _
    unfold Fb.l
    rw [hn5, hv5]
  have lh : h.Light := ⟨by rw [hn5]; exact lf.n, by rw [ih5.len, hv5, ← if4.len]; exact lf.len, by rw [hv5]; exact lf.vs⟩
  have hB5 : Bx2 w5 w.heap.size f g al am xs ys := (Bx2.mk a0 a1 b0 b1 if4 ig4 ix4 iy4).on hb5
  have hw5 := bt hw4 hb5
  have hb6 : Below w5.heap.size w5 (w5.alloc (bxO h)) := (Below.refl _ _).alloc (Nat.le_refl _) _
  have hB6 := hB5.on hb6
  have hw6 := bt hw5 hb6
  have ih6 := ih5.on hb6
  obtain ⟨d0, d1⟩ := pair_of (heap_alloc_new w5 (bxO h))
  clear hn5 hv5 hnil a0 a1 b0 b1 if4 ig4 ix4 iy4 hB5 hb5 hb6 hw5 hw4 ih5
  go_wp2_with fail
  generalize w5.alloc (bxO h) = V at *
  generalize w5.heap.size = p at *
  have HTh : Hid ((if rightF h.l then ⟨(textF h.l).toArray⟩ else ⟨#[]⟩) = ta ∧ chk (rightF h.l) = ea) := by
    show _ ∧ _
    rw [unhide HL]; exact unhide HT
  refine (ftext_l h ta ea V (he.on hw6) ih6 lh HTh).mono ?_
  rintro e w7 ⟨rfl, hb7⟩
  have hB7 := hB6.on hb7
  have hw7 := bt hw6 hb7
  have ih7 := ih6.on hb7
  have d0 := cell_on hb7 d0
  have d1 := cell_on hb7 d1
  clear hB6 hw6 ih6 hb7 HTh
  obtain ⟨a0, a1, b0, b1, if7, ig7, ix7, iy7⟩ := hB7
  have HXh : Hid (cmpF h.l g.l = x) := by
    show _ = _
    rw [unhide HL]; exact unhide HX
  have lh20 : h.len ≤ 1000 := by have := lh.len; omega
  have hs' : s.size ≤ 200 := by omega
  have hdr := in_drew
  have hrd := rowF_drew
  have l1 : ll = xs.length := by omega
  have l2 : lm = ys.length := by omega
  have L1 := hide l1
  have L2 := hide l2
  have hx20 : ∀ f ∈ xs, f.len ≤ 1000 := fun f hf => by have := (lx f hf).len; omega
  clear l1 l2
  go_wp2_with fail
  go_region_held3 (fun w' => w'.cell? ⟨w.heap.size, 0, none⟩ = some (.string f.n) ∧ w'.cell? ⟨w.heap.size, 1, none⟩ = some (.slice f.a f.len f.cap) ∧ w'.cell? ⟨w.heap.size + 1, 0, none⟩ = some (.string g.n) ∧ w'.cell? ⟨w.heap.size + 1, 1, none⟩ = some (.slice g.a g.len g.cap) ∧ w'.cell? ⟨p, 0, none⟩ = some (.string h.n) ∧ w'.cell? ⟨p, 1, none⟩ = some (.slice h.a h.len h.cap) ∧ f.In w' ∧ g.In w' ∧ h.In w' ∧ RowF w' al xs ∧ RowF w' am ys) (go_keep) (first
    | (go_at_call 10; refine (kept (name_q _ q _ hs' HQ)).mono ?_; rintro e w' ⟨rfl, hb, hk, hi, hrw⟩)
    | (go_at_call 11; refine (kept (refName_q _ q _ hs' HQ)).mono ?_; rintro e w' ⟨rfl, hb, hk, hi, hrw⟩)
    | (go_at_call 12; refine (kept (compare_x h g x _ (by simp [*]) (by simp [*]) lh20 HXh)).mono ?_; rintro e w' ⟨rfl, hb, hk, hi, hrw⟩)
    | (go_at_call 13; refine (kept (refFacts_x f g x _ lf lg (by simp [*]) (by simp [*]) HX)).mono ?_; rintro e w' ⟨rfl, hb, hk, hi, hrw⟩)
    | (go_at_call 14; refine (kept (lists_l _ _ _ _ _ _ xs ys z _ (by simp [*]) (by simp [*]) (unhide L1) (unhide L2) (by omega) hx20 HZ)).mono ?_; rintro e w' ⟨rfl, hb, hk, hi, hrw⟩)
    | (go_at_call 15; refine (kept (refLists_x _ _ _ _ _ _ xs ys z _ (by simp [*]) (by simp [*]) (unhide L1) (unhide L2) (by omega) lx ly HZ)).mono ?_; rintro e w' ⟨rfl, hb, hk, hi, hrw⟩)
    | (go_at_call 16; refine (kept (keepFact_t h f _ (by simp [*]) (by simp [*]) lh20 HL)).mono ?_; rintro e w' ⟨rfl, hb, hk, hi, hrw⟩))
  rename_i v1 hb1 hk1 hi1 hr1 v2 hb2 hk2 hi2 hr2 v3 hb3 hk3 hi3 hr3 v4 hb4 hk4 hi4 hr4 v5 hb5 hk5 hi5 hr5 v6 hb6 hk6 hi6 hr6 hS
  have hw8 : Below w.heap.size w w' := bt (bt (bt (bt (bt (bt (bt hw7.drew hb1) hb2) hb3) hb4) hb5) hb6) hb
  clear a0 a1 b0 b1 d0 d1 if7 ig7 ih7 ix7 iy7 hk1 hi1 hr1 hk2 hi2 hr2 hk3 hi3 hr3 hk4 hi4 hr4 hk5 hi5 hr5 hk6 hi6 hr6 hk hi hrw hb1 hb2 hb3 hb4 hb5 hb6 hb hw7
  obtain ⟨a0, a1, b0, b1, d0, d1, if8, ig8, ih8, ix8, iy8⟩ := hS
  clear hdr hrd hx20 lx ly L1 L2 HQ HZ HX HXh lh20 hll hll' hlm hlm' l60 m60 b0 b1 ig8 ix8 iy8 lg hs hs'
  cases hR : rightF f.l with
  | false =>
    have hR' := hide hR
    have hC : Hid (chk (rightF h.l) = 1) := by
      show _ = _
      rw [unhide HL, hR]; rfl
    have hT : (⟨#[]⟩ : ByteArray) = ta ∧ (1 : Int) = ea := by
      have := unhide HT
      rw [hR] at this
      exact this
    clear HT hR
    obtain ⟨rfl, rfl⟩ := hT
    go_wp2_with fail
    refine (refFact_q f false _ if8 lf hR').mono ?_
    rintro e w9 ⟨rfl, hb9⟩
    have hw9 := bt hw8 hb9
    have d0 := cell_on hb9 d0
    have d1 := cell_on hb9 d1
    have ih9 := ih8.on hb9
    go_wp2_with fail
    refine (fcheck_x h 1 _ ih9 lh hC).mono ?_
    rintro e w10 ⟨rfl, hb10⟩
    have hw10 := bt hw9 hb10
    go_wp2_with fail
    refine (wakes_any _ (he.on hw10)).mono ?_
    rintro e w11 ⟨rfl, hb11⟩
    go_wp2_with fail
    go_ret
    exact ⟨rfl, bt hw10 hb11⟩
  | true =>
    have hR' := hide hR
    have hC : Hid (chk (rightF h.l) = 0) := by
      show _ = _
      rw [unhide HL, hR]; rfl
    have hT : (⟨(textF f.l).toArray⟩ : ByteArray) = ta ∧ (0 : Int) = ea := by
      have := unhide HT
      rw [hR] at this
      exact this
    clear HT hR
    obtain ⟨hta, rfl⟩ := hT
    have HA := hide hta
    clear hta
    go_wp2_with fail
    refine (refFact_q f true _ if8 lf hR').mono ?_
    rintro e w9 ⟨rfl, hb9⟩
    have hw9 := bt hw8 hb9
    have d0 := cell_on hb9 d0
    have d1 := cell_on hb9 d1
    have a0 := cell_on hb9 a0
    have a1 := cell_on hb9 a1
    have ih9 := ih8.on hb9
    have if9 := if8.on hb9
    go_wp2_with fail
    refine (fcheck_x h 0 _ ih9 lh hC).mono ?_
    rintro e w10 ⟨rfl, hb10⟩
    have hw10 := bt hw9 hb10
    have a0 := cell_on hb10 a0
    have a1 := cell_on hb10 a1
    have if10 := if9.on hb10
    go_wp2_with fail
    refine (refFText_x f ta _ if10 lf (unhide hR') HA).mono ?_
    rintro e w11 ⟨rfl, hb11⟩
    have hw11 := bt hw10 hb11
    go_wp2_with fail
    refine (wakes_any _ (he.on hw11)).mono ?_
    rintro e w12 ⟨rfl, hb12⟩
    go_wp2_with fail
    go_ret
    exact ⟨rfl, bt hw11 hb12⟩

theorem exact_any (f g : Fb) (al am : Option Addr) (ll lm cl cm : Nat) (xs ys : List Fb) (s : ByteArray) (w : World) (he : Env w) (hf : f.In w) (hg : g.In w) (hx : RowF w al xs) (hy : RowF w am ys) (hl : ll = xs.length) (hm : lm = ys.length) (hnil : f.a = none → f.cap = 0) :
    Calls Tryd.prog 3 #[.agg #[.string f.n, .slice f.a f.len f.cap], .agg #[.string g.n, .slice g.a g.len g.cap], .slice al ll cl, .slice am lm cm, .string s] w fun e w' => e = .returned (.bool true) ∧ Below w.heap.size w w' :=
  exact_walk f g al am ll lm cl cm xs ys s w he hf hg hx hy (by omega) (by omega) (by omega) (by omega) hnil _ _ _ _ _ (hide rfl) (hide rfl) (hide rfl) (hide ⟨rfl, rfl⟩)
end Go.Proofs.YtbdfdpioegjfhaaDoor

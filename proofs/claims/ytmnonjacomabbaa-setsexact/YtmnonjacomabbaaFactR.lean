/- The walk of constablelaw03.FactExact: it answers true, whatever the facts, the lists, the text. -/
import Derived.Test.YtmnonjacomabbaaFactO
namespace Go.Proofs.Ytmnonjacomabbaa
open Go.RowKit
open V

/-- What a call that only adds to memory leaves as it was. -/
theorem kept {F : FuncId} {args : Array Value} {w : World} {Q : Ending → Prop} (h : Calls Try.prog F args w fun e w' => Q e ∧ Below w.heap.size w w') :
    Calls Try.prog F args w fun e w' => Q e ∧ Below w.heap.size w w' ∧ (∀ b o v, w.cell? ⟨b, o, none⟩ = some v → w'.cell? ⟨b, o, none⟩ = some v) ∧ (∀ f : Fb, f.In w → f.In w') ∧ (∀ a fs, RowF w a fs → RowF w' a fs) := by
  refine h.mono ?_
  rintro e w' ⟨hq, hb⟩
  exact ⟨hq, hb, fun b o v h => cell_on hb h, fun f h => h.on hb, fun a fs h => h.on hb⟩
theorem rowF_drew (a : Option Addr) (fs : List Fb) (w : World) : RowF w.drew a fs ↔ RowF w a fs :=
  ⟨fun h => ⟨fun f hf => (in_drew f w).1 (h.1 f hf), h.2⟩, fun h => ⟨fun f hf => (in_drew f w).2 (h.1 f hf), h.2⟩⟩

/-- The two boxed facts of the law, with all that it is handed. -/
structure Bx2 (W : World) (b : Nat) (f g : Fb) (al am : Option Addr) (xs ys : List Fb) : Prop where
  a0 : W.cell? ⟨b, 0, none⟩ = some (.string f.n)
  a1 : W.cell? ⟨b, 1, none⟩ = some (.slice f.a f.len f.cap)
  b0 : W.cell? ⟨b + 1, 0, none⟩ = some (.string g.n)
  b1 : W.cell? ⟨b + 1, 1, none⟩ = some (.slice g.a g.len g.cap)
  f : f.In W
  g : g.In W
  xs : RowF W al xs
  ys : RowF W am ys
theorem Bx2.on {W w1 : World} {b : Nat} {f g : Fb} {al am : Option Addr} {xs ys : List Fb} (B : Bx2 W b f g al am xs ys) (hb : Below W.heap.size W w1) : Bx2 w1 b f g al am xs ys :=
  ⟨cell_on hb B.a0, cell_on hb B.a1, cell_on hb B.b0, cell_on hb B.b1, B.f.on hb, B.g.on hb, B.xs.on hb, B.ys.on hb⟩
theorem bx2 (w : World) (f g : Fb) (al am : Option Addr) (xs ys : List Fb) (hf : f.In w) (hg : g.In w) (hx : RowF w al xs) (hy : RowF w am ys) : Bx2 ((w.alloc (bxO f)).alloc (bxO g)) w.heap.size f g al am xs ys := by
  have hb : Below w.heap.size w ((w.alloc (bxO f)).alloc (bxO g)) := ((Below.refl _ _).alloc (Nat.le_refl _) _).alloc (by simp) _
  have s1 : (w.alloc (bxO f)).heap.size = w.heap.size + 1 := by simp
  have h2 := heap_alloc_new (w.alloc (bxO f)) (bxO g)
  have h1 := heap_alloc_new w (bxO f)
  rw [s1] at h2
  rw [← Lib.alloc_old _ (bxO g) _ (by rw [s1]; omega)] at h1
  obtain ⟨x0, x1⟩ := pair_of h1
  obtain ⟨y0, y1⟩ := pair_of h2
  exact ⟨x0, x1, y0, y1, hf.on hb, hg.on hb, hx.on hb, hy.on hb⟩

theorem compare_x (f g : Fb) (x : Int) (w : World) (hf : f.In w) (hg : g.In w) (h20 : f.len ≤ 1000) (H : Hid (cmpF f.l g.l = x)) :
    Calls Try.prog 27 #[.agg #[.string f.n, .slice f.a f.len f.cap], .agg #[.string g.n, .slice g.a g.len g.cap]] w fun e w' => e = .returned (.int .i64 x) ∧ Below w.heap.size w w' := by
  have := fcompare_fb f g w hf hg h20
  rw [unhide H] at this
  exact this
theorem refFacts_x (f g : Fb) (x : Int) (w : World) (lf : f.Light) (lg : g.Light) (hf : f.In w) (hg : g.In w) (H : Hid (cmpF f.l g.l = x)) :
    Calls Try.prog 39 #[.agg #[.string f.n, .slice f.a f.len f.cap], .agg #[.string g.n, .slice g.a g.len g.cap]] w fun e w' => e = .returned (.int .i64 x) ∧ Below w.heap.size w w' := by
  have := refFacts_any f.n g.n f.a g.a f.len g.len f.cap g.cap f.vs g.vs w lf.n lg.n lf.vs lg.vs hf.row hg.row (by rw [hf.len]; omega) (by rw [hf.len]; omega) (by rw [hg.len]; omega) (by rw [hg.len]; omega) (by have := lf.len; omega)
  rw [show cmpF (f.n.data.toList, f.vs.map Vb.l) (g.n.data.toList, g.vs.map Vb.l) = x from unhide H] at this
  exact this
theorem keepFact_t (f g : Fb) (w : World) (hf : f.In w) (hg : g.In w) (h20 : f.len ≤ 1000) (H : Hid (f.l = g.l)) :
    Calls Try.prog 26 #[.agg #[.string f.n, .slice f.a f.len f.cap], .agg #[.string g.n, .slice g.a g.len g.cap]] w fun e w' => e = .returned (.bool true) ∧ Below w.heap.size w w' := by
  have := keepFact_fb f g w hf hg h20
  rw [decide_eq_true (unhide H)] at this
  exact this
theorem name_q (s : ByteArray) (q : Bool) (w : World) (hs : s.size ≤ 200) (H : Hid (nameB s.data.toList = q)) :
    Calls Try.prog 62 #[.string s] w fun e w' => e = .returned (.bool q) ∧ Below w.heap.size w w' := by
  have := name_any s w (by unfold maxLen; omega)
  rw [unhide H] at this
  exact this
theorem refName_q (s : ByteArray) (q : Bool) (w : World) (hs : s.size ≤ 200) (H : Hid (nameB s.data.toList = q)) :
    Calls Try.prog 37 #[.string s] w fun e w' => e = .returned (.bool q) ∧ Below w.heap.size w w' := by
  have := refName_any s w (by unfold maxLen; omega)
  rw [unhide H] at this
  exact this
theorem refFact_q (f : Fb) (q : Bool) (w : World) (hf : f.In w) (hl : f.Light) (H : Hid (rightF f.l = q)) :
    Calls Try.prog 17 #[.agg #[.string f.n, .slice f.a f.len f.cap]] w fun e w' => e = .returned (.bool q) ∧ Below w.heap.size w w' := by
  have := refFact_any f.n f.a f.len f.cap f.vs w hl.n hl.vs hf.row (by rw [hf.len]; omega) (by rw [hf.len]; omega) hl.len
  rw [show rightF (f.n.data.toList, f.vs.map Vb.l) = q from unhide H] at this
  exact this
theorem fcheck_x (f : Fb) (x : Int) (w : World) (hf : f.In w) (hl : f.Light) (H : Hid (chk (rightF f.l) = x)) :
    Calls Try.prog 46 #[.agg #[.string f.n, .slice f.a f.len f.cap]] w fun e w' => e = .returned (.int .i64 x) ∧ Below w.heap.size w w' := by
  have := fcheck_fb f w hf hl
  rw [unhide H] at this
  exact this
end Go.Proofs.Ytmnonjacomabbaa

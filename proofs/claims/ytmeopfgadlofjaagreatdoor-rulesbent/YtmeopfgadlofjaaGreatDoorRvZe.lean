/- Joined: RwA RwB RwC. -/
import Derived.Test.YtmeopfgadlofjaaGreatDoorRvZd
import Derived.Test.YtmeopfgadlofjaaGreatDoorRvR
namespace Go.Proofs.YtmeopfgadlofjaaGreatDoor.Sb
open Go.RowKit
open V
open Ex (RowO LiesO flatO liesO_own)

theorem BR.off {W : World} {b : Nat} {r : Rz} (h : BR W b r) {a : Addr} (ha : a.block ≠ b) (u : Value) : BR (W.setCell a u) b r :=
  ⟨by rw [World.cell?_setCell_other _ _ _ _ (by intro e; subst e; exact ha rfl)]; exact h.c0, by rw [World.cell?_setCell_other _ _ _ _ (by intro e; subst e; exact ha rfl)]; exact h.c1, by rw [World.cell?_setCell_other _ _ _ _ (by intro e; subst e; exact ha rfl)]; exact h.c2, by rw [World.cell?_setCell_other _ _ _ _ (by intro e; subst e; exact ha rfl)]; exact h.c3⟩
theorem BR.put_n {W : World} {b : Nat} {r : Rz} (h : BR W b r) (n : ByteArray) : BR (W.setCell ⟨b, 0, none⟩ (.string n)) b { r with n := n } :=
  ⟨by rw [World.cell?_setCell_same _ _ _ h.c0], by rw [World.cell?_setCell_other _ _ _ _ (by simp)]; exact h.c1, by rw [World.cell?_setCell_other _ _ _ _ (by simp)]; exact h.c2, by rw [World.cell?_setCell_other _ _ _ _ (by simp)]; exact h.c3⟩
theorem BR.put_p {W : World} {b : Nat} {r : Rz} (h : BR W b r) (p : Int) : BR (W.setCell ⟨b, 1, none⟩ (.int .i64 p)) b { r with p := p } :=
  ⟨by rw [World.cell?_setCell_other _ _ _ _ (by simp)]; exact h.c0, by rw [World.cell?_setCell_same _ _ _ h.c1], by rw [World.cell?_setCell_other _ _ _ _ (by simp)]; exact h.c2, by rw [World.cell?_setCell_other _ _ _ _ (by simp)]; exact h.c3⟩
theorem BR.put_c {W : World} {b : Nat} {r : Rz} (h : BR W b r) (a : Option Addr) (l c : Nat) (cs : List Cd) : BR (W.setCell ⟨b, 2, none⟩ (.slice a l c)) b { r with ca := a, cl := l, cc := c, cs := cs } :=
  ⟨by rw [World.cell?_setCell_other _ _ _ _ (by simp)]; exact h.c0, by rw [World.cell?_setCell_other _ _ _ _ (by simp)]; exact h.c1, by rw [World.cell?_setCell_same _ _ _ h.c2], by rw [World.cell?_setCell_other _ _ _ _ (by simp)]; exact h.c3⟩
theorem BR.put_a {W : World} {b : Nat} {r : Rz} (h : BR W b r) (a : Option Addr) (l c : Nat) (zs : List Az) : BR (W.setCell ⟨b, 3, none⟩ (.slice a l c)) b { r with aa := a, al := l, ac := c, zs := zs } :=
  ⟨by rw [World.cell?_setCell_other _ _ _ _ (by simp)]; exact h.c0, by rw [World.cell?_setCell_other _ _ _ _ (by simp)]; exact h.c1, by rw [World.cell?_setCell_other _ _ _ _ (by simp)]; exact h.c2, by rw [World.cell?_setCell_same _ _ _ h.c3]⟩
/-- What the law holds of the bent one. -/
structure Bent (W : World) (xb : Nat) (x : Rz) : Prop where
  box : BR W xb x
  lies : x.In W
  soft : x.Soft
  wrong : rightR x.pl = false
theorem OwnC.put {W : World} {B g cap : Nat} {c : Cd} {cs : List Cd} (h : OwnC W B (.slice (some ⟨g, 0, none⟩) (c :: cs).length cap) (c :: cs)) (j : Nat) (hj : j < 6) (u : Value) (k' h' : Int) (hf : (flatC c).set j u = flatC { c with k := k', h := h' }) :
    OwnC (W.setCell ⟨g, j, none⟩ u) B (.slice (some ⟨g, 0, none⟩) (c :: cs).length cap) ({ c with k := k', h := h' } :: cs) := by
  have h1 := (World.ownsRow.stored h.row j u).1
  have e : (flatCs (c :: cs)).set j u = flatCs ({ c with k := k', h := h' } :: cs) := by
    show (flatC c ++ flatCs cs).set j u = flatC _ ++ flatCs cs
    rw [List.set_append_left _ _ (by simpa using hj), hf]
  rw [e] at h1
  refine ⟨h1, fun d hd => ?_⟩
  have ne : ∀ {v : Value}, Apart v (.slice (some ⟨g, 0, none⟩) (c :: cs).length cap) → ∀ m, v.ownBlock = some m → m ≠ (⟨g, j, none⟩ : Addr).block := fun ha m hm e => ha m hm (by rw [e]; rfl)
  rcases List.mem_cons.1 hd with rfl | hd
  · have hc := h.all c (by simp)
    exact ⟨own_off hc.t (ne hc.ta) u, own_off hc.x (ne hc.xa) u, own_off hc.y (ne hc.ya) u, hc.ta, hc.xa, hc.ya⟩
  · have hc := h.all d (by simp [hd])
    exact ⟨own_off hc.t (ne hc.ta) u, own_off hc.x (ne hc.xa) u, own_off hc.y (ne hc.ya) u, hc.ta, hc.xa, hc.ya⟩
theorem Az.Own.off {z : Az} {W : World} {B : Nat} {v : Value} (h : z.Own W B v) {a : Addr} (h1 : ∀ m, (Value.slice z.a z.m z.mc).ownBlock = some m → m ≠ a.block) (h2 : ∀ e ∈ z.es, ∀ m, (Value.slice e.a e.l e.c).ownBlock = some m → m ≠ a.block) (u : Value) : z.Own (W.setCell a u) B v :=
  ⟨⟨own_off h.e.row h1 u, fun e he => ⟨own_off (h.e.all e he).o (h2 e he) u, (h.e.all e he).a⟩⟩, h.za, h.ea⟩
theorem OwnA.put {W : World} {B g cap : Nat} {z : Az} {zs : List Az} (h : OwnA W B (.slice (some ⟨g, 0, none⟩) (z :: zs).length cap) (z :: zs)) (k' : Int) :
    OwnA (W.setCell ⟨g, 0, none⟩ (.int .i64 k')) B (.slice (some ⟨g, 0, none⟩) (z :: zs).length cap) ({ z with k := k' } :: zs) := by
  have h1 := (World.ownsRow.stored h.row 0 (.int .i64 k')).1
  have e : (flatZs (z :: zs)).set 0 (.int .i64 k') = flatZs ({ z with k := k' } :: zs) := rfl
  rw [e] at h1
  refine ⟨h1, fun d hd => ?_⟩
  have ne : ∀ {v : Value}, Apart v (.slice (some ⟨g, 0, none⟩) (z :: zs).length cap) → ∀ m, v.ownBlock = some m → m ≠ (⟨g, 0, none⟩ : Addr).block := fun ha m hm e => ha m hm (by rw [e]; rfl)
  rcases List.mem_cons.1 hd with rfl | hd
  · have hz := h.all z (by simp)
    have := hz.off (a := ⟨g, 0, none⟩) (ne hz.za) (fun e he => ne (hz.ea e he)) (.int .i64 k')
    exact ⟨this.e, this.za, this.ea⟩
  · have hz := h.all d (by simp [hd])
    exact hz.off (a := ⟨g, 0, none⟩) (ne hz.za) (fun e he => ne (hz.ea e he)) _
theorem Cd.Light.turn {c : Cd} (h : c.Light) (k' h' : Int) : ({ c with k := k', h := h' } : Cd).Light := ⟨h.n, h.m, h.l, h.r, h.t, h.x, h.y⟩

section
variable {r s : Rz} {B : Nat} {w w3 : World}

theorem bent_0 (T : Twin r s B w w3) : Bent ((w3.alloc (bxR s)).setCell ⟨w3.heap.size, 2, none⟩ (.slice none 0 0)) w3.heap.size { s with ca := none, cl := 0, cc := 0, cs := [] } :=
  ⟨(br_of (heap_alloc_new w3 (bxR s))).put_c none 0 0 [], ⟨liesC_none _, (T.lies.on ((below_new w3 (bxR s)).setCell (p := ⟨w3.heap.size, 2, none⟩) (Nat.le_refl _) _)).a⟩, ⟨T.light.soft.n, fun c hc => (by cases hc), T.light.soft.zs⟩, rno (fun e => by have h := (right_iff.1 e).2.2.1.1; exact absurd h (by simp [Rz.pl]))⟩
theorem bent_1 (T : Twin r s B w w3) : Bent ((w3.alloc (bxR s)).setCell ⟨w3.heap.size, 3, none⟩ (.slice none 0 0)) w3.heap.size { s with aa := none, al := 0, ac := 0, zs := [] } :=
  ⟨(br_of (heap_alloc_new w3 (bxR s))).put_a none 0 0 [], ⟨(T.lies.on ((below_new w3 (bxR s)).setCell (p := ⟨w3.heap.size, 3, none⟩) (Nat.le_refl _) _)).c, liesA_none _⟩, ⟨T.light.soft.n, T.light.soft.cs, fun c hc => (by cases hc)⟩, rno (fun e => by have h := (right_iff.1 e).2.2.2.2.1.1; exact absurd h (by simp [Rz.pl]))⟩
theorem bent_3 (T : Twin r s B w w3) : Bent ((w3.alloc (bxR s)).setCell ⟨w3.heap.size, 1, none⟩ (.int .i64 1001)) w3.heap.size { s with p := 1001 } :=
  have hi := T.lies.on ((below_new w3 (bxR s)).setCell (p := ⟨w3.heap.size, 1, none⟩) (Nat.le_refl _) (.int .i64 1001))
  ⟨(br_of (heap_alloc_new w3 (bxR s))).put_p 1001, ⟨hi.c, hi.a⟩, ⟨T.light.soft.n, T.light.soft.cs, T.light.soft.zs⟩, no_prio (r := { s with p := 1001 }) (show decide ((-1000 : Int) ≤ 1001 ∧ (1001 : Int) ≤ 1000) = false by decide)⟩
theorem bent_7 (T : Twin r s B w w3) : Bent ((w3.alloc (bxR s)).setCell ⟨w3.heap.size, 0, none⟩ (.string ⟨#[114, 117, 108, 101]⟩)) w3.heap.size { s with n := ⟨#[114, 117, 108, 101]⟩ } :=
  have hi := T.lies.on ((below_new w3 (bxR s)).setCell (p := ⟨w3.heap.size, 0, none⟩) (Nat.le_refl _) (.string ⟨#[114, 117, 108, 101]⟩))
  ⟨(br_of (heap_alloc_new w3 (bxR s))).put_n _, ⟨hi.c, hi.a⟩, ⟨by show (⟨#[114, 117, 108, 101]⟩ : ByteArray).size ≤ 200; decide, T.light.soft.cs, T.light.soft.zs⟩, no_name (r := { s with n := ⟨#[114, 117, 108, 101]⟩ }) (show nameB [114, 117, 108, 101] = false by decide)⟩

/-- Where the twin's conditions and acts begin. -/
theorem twin_rows (T : Twin r s B w w3) (hR : rightR r.pl = true) : (∃ (g : Nat) (c : Cd) (cs : List Cd), s.ca = some ⟨g, 0, none⟩ ∧ s.cs = c :: cs ∧ s.cl = (c :: cs).length ∧ c.k = 1 ∧ w.heap.size ≤ g ∧ g < B ∧ g < w3.heap.size ∧ w3.cell? ⟨g, 0, none⟩ = some (.int .i64 c.k) ∧ w3.cell? ⟨g, 3, none⟩ = some (.int .i64 c.h) ∧ w3.frozen? ⟨g, 0, none⟩ = false ∧ w3.frozen? ⟨g, 3, none⟩ = false) ∧
    (∃ (g : Nat) (z : Az) (zs : List Az), s.aa = some ⟨g, 0, none⟩ ∧ s.zs = z :: zs ∧ s.al = (z :: zs).length ∧ B ≤ g ∧ g < w3.heap.size ∧ w3.cell? ⟨g, 0, none⟩ = some (.int .i64 z.k) ∧ w3.frozen? ⟨g, 0, none⟩ = false ∧ s.al ≤ s.ac ∧ s.al ≤ 6) := by
  have hR' : rightR s.pl = true := by rw [T.pl]; exact hR
  obtain ⟨-, -, h3, h4, h5, -, -⟩ := right_iff.1 hR'
  have e3 : 1 ≤ s.cs.length := by have := h3.1; simpa [Rz.pl] using this
  have e5 : 1 ≤ s.zs.length := by have := h5.1; simpa [Rz.pl] using this
  have e6 : s.zs.length ≤ 6 := by have := h5.2; simpa [Rz.pl] using this
  have hA := T.lies.a
  have hal : s.al = s.zs.length := by have := hA.le; have := hA.ge; omega
  constructor
  · have hrow := T.c.row
    have hlow := T.low.row
    have hlen := T.len
    obtain ⟨c, cs, hcs⟩ : ∃ c cs, s.cs = c :: cs := by
      match hm : s.cs with
      | [] => rw [hm] at e3; simp at e3
      | c :: cs => exact ⟨c, cs, rfl⟩
    have hk : c.k = 1 := by
      have : ((s.cs.map Cd.pl).map Prod.fst).head? = some 1 := h4
      rw [hcs] at this
      simpa [Cd.pl] using this
    have hcell := hrow
    rcases hrow.2 with ⟨_, h0⟩ | ⟨g, cap, cur, hv, hB, hg, hc, _, _, ht⟩
    · omega
    · simp only [Value.slice.injEq] at hv
      obtain ⟨ha, hl, hcp⟩ := hv
      have hx : ∀ (i : Nat) (u : Value), i < 6 → (flatC c)[i]? = some u → w3.cell? ⟨g, i, none⟩ = some u := by
        intro i u hi hu
        have e := flatCs_get s.cs 0 c (by rw [hcs]; rfl) i hi
        rw [Nat.zero_mul, Nat.zero_add] at e
        rw [← e, ← ht, List.getElem?_take_of_lt (by omega), Array.getElem?_toList] at hu
        rw [Lib.cell_of_heap hg]
        exact hu
      exact ⟨g, c, cs, ha, hcs, by rw [← hlen, hcs], hk, hB, hlow g (by rw [ha]; rfl), (Array.getElem?_eq_some_iff.1 hg).1, hx 0 _ (by omega) rfl, hx 3 _ (by omega) rfl, Lib.frozen_of_heap hg 0, Lib.frozen_of_heap hg 3⟩
  · have hrow := T.a.row
    obtain ⟨c, cs, hcs⟩ : ∃ c cs, s.zs = c :: cs := by
      match hm : s.zs with
      | [] => rw [hm] at e5; simp at e5
      | c :: cs => exact ⟨c, cs, rfl⟩
    rcases hrow.2 with ⟨_, h0⟩ | ⟨g, cap, cur, hv, hB, hg, hc, _, _, ht⟩
    · omega
    · simp only [Value.slice.injEq] at hv
      obtain ⟨ha, hl, hcp⟩ := hv
      have hx : w3.cell? ⟨g, 0, none⟩ = some (.int .i64 c.k) := by
        have e := flatZs_get s.zs 0 c (by rw [hcs]; rfl) 0 (by omega)
        have hu : (flatZ c)[0]? = some (.int .i64 c.k) := rfl
        rw [Nat.zero_mul, Nat.zero_add] at e
        rw [← e, ← ht, List.getElem?_take_of_lt (by omega), Array.getElem?_toList] at hu
        rw [Lib.cell_of_heap hg]
        exact hu
      exact ⟨g, c, cs, ha, hcs, by rw [hal, hcs], hB, (Array.getElem?_eq_some_iff.1 hg).1, hx, Lib.frozen_of_heap hg 0, by rw [hcp]; omega, by omega⟩
end
end Go.Proofs.YtmeopfgadlofjaaGreatDoor.Sb
namespace Go.Proofs.YtmeopfgadlofjaaGreatDoor.Sb
open Go.RowKit
open V
open Ex (RowO LiesO flatO liesO_own)

section
variable {r s : Rz} {B : Nat} {w w3 : World}

theorem kind_how (a : At) (x y : List Oo) : rightC' (1, a, 1, x, y) = false := by simp [rightC']
theorem cond_kind {c : Cd} (hk : c.k = 1) : rightC' ({ c with k := c.k, h := 1 } : Cd).pl = false := by
  show rightC' (c.k, (c.n.data.toList, c.ts), 1, c.xs, c.ys) = false
  rw [hk]
  exact kind_how _ _ _
/-- The first condition of the twin, another kind or another way in it. -/
theorem bent_c (T : Twin r s B w w3) {g : Nat} {c : Cd} {cs : List Cd} (hca : s.ca = some ⟨g, 0, none⟩) (hcs : s.cs = c :: cs) (hcl : s.cl = (c :: cs).length) (hgB : g < B) (hg3 : g < w3.heap.size) (j : Nat) (hj : j < 6) (u : Value) (k' h' : Int) (hf : (flatC c).set j u = flatC { c with k := k', h := h' })
    (hw : rightR ({ s with cs := { c with k := k', h := h' } :: cs } : Rz).pl = false) :
    Bent ((w3.alloc (bxR s)).setCell ⟨g, j, none⟩ u) w3.heap.size { s with cs := { c with k := k', h := h' } :: cs } := by
  have hC := T.c.on (below_new w3 (bxR s))
  rw [hca, hcl, hcs] at hC
  have hC2 := (hC.put j hj u k' h' hf).lies (cs := { c with k := k', h := h' } :: cs)
  have hA2 := ((T.a.on (below_new w3 (bxR s))).set_below (a := ⟨g, j, none⟩) hgB u).lies
  refine ⟨(BR.off (br_of (heap_alloc_new w3 (bxR s))) (a := ⟨g, j, none⟩) (by show g ≠ w3.heap.size; omega) u).1 |> fun h0 => ⟨h0, (BR.off (br_of (heap_alloc_new w3 (bxR s))) (a := ⟨g, j, none⟩) (by show g ≠ w3.heap.size; omega) u).c1, (BR.off (br_of (heap_alloc_new w3 (bxR s))) (a := ⟨g, j, none⟩) (by show g ≠ w3.heap.size; omega) u).c2, (BR.off (br_of (heap_alloc_new w3 (bxR s))) (a := ⟨g, j, none⟩) (by show g ≠ w3.heap.size; omega) u).c3⟩, ⟨?_, hA2⟩, ?_, hw⟩
  · show LiesC _ s.ca s.cl s.cc _
    rw [hca, hcl]
    exact hC2
  · have hs := T.light.soft
    refine ⟨hs.n, fun d hd => ?_, hs.zs⟩
    rcases List.mem_cons.1 hd with rfl | hd
    · exact (hs.cs c (by rw [hcs]; simp)).turn k' h'
    · exact hs.cs d (by rw [hcs]; simp [hd])
theorem bent_2 (T : Twin r s B w w3) {g : Nat} {c : Cd} {cs : List Cd} (hca : s.ca = some ⟨g, 0, none⟩) (hcs : s.cs = c :: cs) (hcl : s.cl = (c :: cs).length) (hgB : g < B) (hg3 : g < w3.heap.size) :
    Bent ((w3.alloc (bxR s)).setCell ⟨g, 0, none⟩ (.int .i64 2)) w3.heap.size { s with cs := { c with k := 2, h := c.h } :: cs } :=
  bent_c T hca hcs hcl hgB hg3 0 (by omega) _ 2 c.h rfl (no_head (r := { s with cs := { c with k := 2, h := c.h } :: cs }) (by simp) (show (2 : Int) ≠ 1 by decide))
theorem bent_6 (T : Twin r s B w w3) {g : Nat} {c : Cd} {cs : List Cd} (hca : s.ca = some ⟨g, 0, none⟩) (hcs : s.cs = c :: cs) (hcl : s.cl = (c :: cs).length) (hk : c.k = 1) (hgB : g < B) (hg3 : g < w3.heap.size) :
    Bent ((w3.alloc (bxR s)).setCell ⟨g, 3, none⟩ (.int .i64 1)) w3.heap.size { s with cs := { c with k := c.k, h := 1 } :: cs } :=
  bent_c T hca hcs hcl hgB hg3 3 (by omega) _ c.k 1 rfl (no_cond (r := { s with cs := { c with k := c.k, h := 1 } :: cs }) (k := 0) (by simp) (cond_kind hk))
/-- The first act of the twin, of a kind that is none. -/
theorem bent_5 (T : Twin r s B w w3) {g : Nat} {z : Az} {zs : List Az} (haa : s.aa = some ⟨g, 0, none⟩) (hzs : s.zs = z :: zs) (hal : s.al = (z :: zs).length) (hgB : B ≤ g) (hg3 : g < w3.heap.size) :
    Bent ((w3.alloc (bxR s)).setCell ⟨g, 0, none⟩ (.int .i64 3)) w3.heap.size { s with zs := { z with k := 3 } :: zs } := by
  have hA := T.a.on (below_new w3 (bxR s))
  rw [haa, hal, hzs] at hA
  have hA2 := (hA.put 3).lies
  have hC := T.c.on (below_new w3 (bxR s))
  have hC2 := hC.set (a := ⟨g, 0, none⟩) (T.low.mono (fun m h => by show m ≠ g; omega)) (.int .i64 3)
  rw [← T.len] at hC2
  have hb := BR.off (br_of (heap_alloc_new w3 (bxR s))) (a := ⟨g, 0, none⟩) (by show g ≠ w3.heap.size; omega) (.int .i64 3)
  refine ⟨⟨hb.c0, hb.c1, hb.c2, hb.c3⟩, ⟨?_, ?_⟩, ?_, no_act (r := { s with zs := { z with k := 3 } :: zs }) (k := 0) (by simp) (act0 (z := { z with k := 3 }) (show (3 : Int) ≠ 1 by decide) (show (3 : Int) ≠ 2 by decide))⟩
  · show LiesC _ s.ca s.cl s.cc s.cs
    rw [← T.len]
    exact hC2.lies
  · show LiesA _ s.aa s.al s.ac _
    rw [haa, hal]
    exact hA2
  · have hs := T.light.soft
    refine ⟨hs.n, hs.cs, fun d hd => ?_⟩
    rcases List.mem_cons.1 hd with rfl | hd
    · have := hs.zs z (by rw [hzs]; simp)
      exact ⟨this.n, this.e⟩
    · exact hs.zs d (by rw [hzs]; simp [hd])
end
end Go.Proofs.YtmeopfgadlofjaaGreatDoor.Sb
namespace Go.Proofs.YtmeopfgadlofjaaGreatDoor.Sb
open Go.RowKit
open V
open Ex (RowO LiesO flatO liesO_own)

/-- The act that takes back what there is not. -/
def zB : Az := ⟨2, ⟨#[]⟩, none, 0, 0, [], 6⟩
theorem flatZs_len (xs : List Az) : (flatZs xs).length = xs.length * 4 := by
  induction xs with
  | nil => rfl
  | cons x r ih => rw [show x :: r = [x] ++ r from rfl, flatZs_app, List.length_append, ih, flatZs_one]; simp; omega
theorem own_init {W : World} {B g cap : Nat} {ys : List Az} {z : Az} (h : OwnA W B (.slice (some ⟨g, 0, none⟩) (ys ++ [z]).length cap) (ys ++ [z])) : OwnA W B (.slice (some ⟨g, 0, none⟩) ys.length cap) ys := by
  refine ⟨⟨flatZs_len ys, ?_⟩, fun d hd => ?_⟩
  · rcases h.row.2 with ⟨hv, _⟩ | ⟨g', cap', cur, hv, hB, hg, hc, hm, hs, ht⟩
    · cases hv
    · simp only [Value.slice.injEq, Option.some.injEq, Addr.mk.injEq, and_true] at hv
      obtain ⟨rfl, -, rfl⟩ := hv
      refine Or.inr ⟨g, cap, cur, rfl, hB, hg, by rw [List.length_append] at hc; omega, hm, hs, ?_⟩
      have e := congrArg (List.take (ys.length * 4)) ht
      rw [List.take_take, flatZs_app, ← flatZs_len ys, List.take_left, List.length_append, Nat.min_eq_left (by rw [flatZs_len]; simp; omega)] at e
      rw [← flatZs_len ys]
      exact e
  · have hz := h.all d (by simp [hd])
    exact ⟨hz.e, hz.za, hz.ea⟩
theorem zB_wrong {N : Nat} (h : N ≤ 6) : rightAct N zB.pl = false := by
  show rightAct N (2, [], [], 6) = false
  unfold rightAct
  rw [if_neg (by decide)]
  have : ¬ ((0 : Int) ≤ 6 ∧ (6 : Int) < N) := by omega
  simp only [decide_eq_false this, Bool.and_false]
section
variable {r s : Rz} {B : Nat} {w w3 : World}
theorem bent_4 (T : Twin r s B w w3) {g : Nat} {ys : List Az} {z : Az} (haa : s.aa = some ⟨g, 0, none⟩) (hzs : s.zs = ys ++ [z]) (hal : s.al = (ys ++ [z]).length) (hgB : B ≤ g) (hg3 : g < w3.heap.size)
    {q9 : Option Addr} {c9 : Nat} {w9 : World} (hr9 : w9.ownsRow B 57 4 (.slice q9 (ys ++ [zB]).length c9) (ys ++ [zB]).length (flatZs (ys ++ [zB])))
    (hg9 : ((w3.alloc (bxR s)).alloc (bxZ zB)).grownBy w9 (some g)) (h59 : (Value.slice q9 (ys ++ [zB]).length c9).ownBlock = some g ∨ (Value.slice q9 (ys ++ [zB]).length c9).ownBlock = some ((w3.alloc (bxR s)).alloc (bxZ zB)).heap.size) :
    Bent (w9.setCell ⟨w3.heap.size, 3, none⟩ (.slice q9 (ys ++ [zB]).length c9)) w3.heap.size { s with aa := q9, al := (ys ++ [zB]).length, ac := c9, zs := ys ++ [zB] } := by
  have hsz : ((w3.alloc (bxR s)).alloc (bxZ zB)).heap.size = w3.heap.size + 2 := by simp
  have hA := T.a
  rw [haa, hal, hzs] at hA
  have hI := own_init hA
  have h9 : w9.heap[w3.heap.size]? = some (bxR s) := (hg9.block w3.heap.size (by omega) (fun e => by simp only [Option.some.injEq] at e; omega)).trans ((Lib.alloc_old (w3.alloc (bxR s)) (bxZ zB) w3.heap.size (by simp)).trans (heap_alloc_new w3 (bxR s)))
  have hv9 : ∀ m, (Value.slice q9 (ys ++ [zB]).length c9).ownBlock = some m → m ≠ w3.heap.size := fun m hm => by
    rcases h59 with e | e
    · rw [e] at hm; cases hm; omega
    · rw [e, hsz] at hm; cases hm; omega
  have hO : OwnA (w9.setCell ⟨w3.heap.size, 3, none⟩ (.slice q9 (ys ++ [zB]).length c9)) B (.slice q9 (ys ++ [zB]).length c9) (ys ++ [zB]) := by
    refine ⟨own_off hr9 (a := ⟨w3.heap.size, 3, none⟩) hv9 _, fun d hd => ?_⟩
    rcases List.mem_append.1 hd with hd | hd
    · have hz := hI.all d hd
      have h1 := ((hz.on (below_new w3 (bxR s))).on (below_new _ (bxZ zB))).beside (v' := .slice q9 (ys ++ [zB]).length c9) hg9 h59
      exact h1.off (a := ⟨w3.heap.size, 3, none⟩) (fun m hm => by have := (hz.e.row.lt m hm).2; show m ≠ w3.heap.size; omega) (fun e he m hm => by have := ((hz.e.all e he).o.lt m hm).2; show m ≠ w3.heap.size; omega) _
    · rw [List.mem_singleton.1 hd]
      exact ⟨⟨World.ownsRow_nil _ _ _ _, fun e h => (by cases h)⟩, fun k h => (by cases h), fun e h => (by cases h)⟩
  have hC := (((T.c.on (below_new w3 (bxR s))).on (below_new _ (bxZ zB))).beside (u := .slice (some ⟨g, 0, none⟩) 0 0) hg9 (T.low.mono (fun m h k hk => by cases hk; show m ≠ g; omega))).set (a := ⟨w3.heap.size, 3, none⟩) (T.c.blk.mono (fun m h => by show m ≠ w3.heap.size; have := h.2; omega)) (.slice q9 (ys ++ [zB]).length c9)
  rw [← T.len] at hC
  refine ⟨(br_of h9).put_a _ _ _ _, ⟨?_, hO.lies⟩, ?_, rno (fun e => ?_)⟩
  · show LiesC _ s.ca s.cl s.cc s.cs
    rw [← T.len]
    exact hC.lies
  · have hs := T.light.soft
    refine ⟨hs.n, hs.cs, fun d hd => ?_⟩
    rcases List.mem_append.1 hd with hd | hd
    · exact hs.zs d (by rw [hzs]; simp [hd])
    · rw [List.mem_singleton.1 hd]
      exact ⟨by decide, fun e h => by cases h⟩
  · obtain ⟨-, -, h3, -, -, -, h7⟩ := right_iff.1 e
    have h := h7 zB.pl (List.mem_map.2 ⟨zB, by simp, rfl⟩)
    have hn := hasN_le (s.cs.map Cd.pl)
    have h36 : (s.cs.map Cd.pl).length ≤ 6 := h3.2
    have hf := zB_wrong (N := hasN (s.cs.map Cd.pl)) (by omega)
    have h' : rightAct (hasN (s.cs.map Cd.pl)) zB.pl = true := h
    rw [hf] at h'
    cases h'
theorem bent_4w (T : Twin r s B w w3) {g : Nat} {ys : List Az} {z : Az} (haa : s.aa = some ⟨g, 0, none⟩) (hzs : s.zs = ys ++ [z]) (hal : s.al = (ys ++ [z]).length) (hgB : B ≤ g) (hg3 : g < w3.heap.size) {W3 : World} (hW : w3.alloc (bxR s) = W3)
    {q9 : Option Addr} {c9 : Nat} {w9 : World} (hr9 : w9.ownsRow B 57 4 (.slice q9 (ys ++ [zB]).length c9) (ys ++ [zB]).length (flatZs (ys ++ [zB])))
    (hg9 : (W3.alloc (bxZ zB)).grownBy w9 (some g)) (h59 : (Value.slice q9 (ys ++ [zB]).length c9).ownBlock = some g ∨ (Value.slice q9 (ys ++ [zB]).length c9).ownBlock = some (W3.alloc (bxZ zB)).heap.size) :
    Bent (w9.setCell ⟨w3.heap.size, 3, none⟩ (.slice q9 (ys ++ [zB]).length c9)) w3.heap.size { s with aa := q9, al := (ys ++ [zB]).length, ac := c9, zs := ys ++ [zB] } := by
  subst hW
  exact bent_4 T haa hzs hal hgB hg3 hr9 hg9 h59
end
end Go.Proofs.YtmeopfgadlofjaaGreatDoor.Sb

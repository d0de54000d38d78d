/- The walk of constablelaw06.MatchFree: it answers true, whatever the two facts. -/
import Derived.Test.YtmoalmpcobljkaaMatI
import Derived.Deep.DeepCutAuto
import Derived.Deep.RegionLaw
namespace Go.Proofs.Ytmoalmpcobljkaa.Sb
open Go.RowKit
open V

/-- The law's two boxes. -/
structure B2 (W : World) (b : Nat) (f g : Fb) : Prop where
  b0 : W.cell? ⟨b, 0, none⟩ = some (.string f.n)
  b1 : W.cell? ⟨b, 1, none⟩ = some (.slice f.a f.len f.cap)
  c0 : W.cell? ⟨b + 1, 0, none⟩ = some (.string g.n)
  c1 : W.cell? ⟨b + 1, 1, none⟩ = some (.slice g.a g.len g.cap)
  f : f.In W
  g : g.In W
theorem B2.on {W w1 : World} {b : Nat} {f g : Fb} (T : B2 W b f g) (hb : Below W.heap.size W w1) : B2 w1 b f g :=
  ⟨cell_on hb T.b0, cell_on hb T.b1, cell_on hb T.c0, cell_on hb T.c1, T.f.on hb, T.g.on hb⟩
theorem B2.cs {W : World} {b : Nat} {f g : Fb} (T : B2 W b f g) : W.cell? ⟨b, 0, none⟩ = some (.string f.n) ∧ W.cell? ⟨b, 1, none⟩ = some (.slice f.a f.len f.cap) ∧ W.cell? ⟨b + 1, 0, none⟩ = some (.string g.n) ∧ W.cell? ⟨b + 1, 1, none⟩ = some (.slice g.a g.len g.cap) := ⟨T.b0, T.b1, T.c0, T.c1⟩
theorem b2_of (w : World) (f g : Fb) (hf : f.In w) (hg : g.In w) : Below w.heap.size w ((w.alloc (bxF f)).alloc (bxF g)) ∧ B2 ((w.alloc (bxF f)).alloc (bxF g)) w.heap.size f g := by
  have hb : Below w.heap.size w ((w.alloc (bxF f)).alloc (bxF g)) := ((Below.refl _ _).alloc (Nat.le_refl _) _).alloc (by simp) _
  have k1 := heap_alloc_new (w.alloc (bxF f)) (bxF g)
  rw [show (w.alloc (bxF f)).heap.size = w.heap.size + 1 by simp] at k1
  have k0 : ((w.alloc (bxF f)).alloc (bxF g)).heap[w.heap.size]? = some (bxF f) := (Lib.alloc_old _ _ _ (by simp)).trans (heap_alloc_new w _)
  obtain ⟨x0, x1⟩ := pair_of k0
  obtain ⟨y0, y1⟩ := pair_of k1
  exact ⟨hb, x0, x1, y0, y1, hf.on hb, hg.on hb⟩
abbrev bxE (n : ByteArray) : Obj := .cells #[.string n, .slice none 0 0] 24
/-- Two new boxes, whichever was made first. -/
structure E2 (s : World) (W : World) (n : ByteArray) (x y : Nat) : Prop where
  hx : W.heap[x]? = some (bxE n)
  hy : W.heap[y]? = some (bxE n)
  ne : x ≠ y
  sx : s.heap.size ≤ x
  sy : s.heap.size ≤ y
  b : Below s.heap.size s W
theorem e2_of (s : World) (n : ByteArray) : E2 s ((s.alloc (bxE n)).alloc (bxE n)).drew n s.heap.size (s.heap.size + 1) ∧ E2 s ((s.alloc (bxE n)).alloc (bxE n)).drew n (s.heap.size + 1) s.heap.size := by
  have hb : Below s.heap.size s ((s.alloc (bxE n)).alloc (bxE n)).drew := (((Below.refl _ _).alloc (Nat.le_refl _) _).alloc (by simp) _).drew
  have k1 := heap_alloc_new (s.alloc (bxE n)) (bxE n)
  rw [show (s.alloc (bxE n)).heap.size = s.heap.size + 1 by simp] at k1
  have k0 : ((s.alloc (bxE n)).alloc (bxE n)).heap[s.heap.size]? = some (bxE n) := (Lib.alloc_old _ _ _ (by simp)).trans (heap_alloc_new s _)
  exact ⟨⟨k0, k1, by omega, Nat.le_refl _, by omega, hb⟩, ⟨k1, k0, by omega, by omega, Nat.le_refl _, hb⟩⟩
theorem grown_set (w : World) (x j : Nat) (v : Value) : w.grownBy (w.setCell ⟨x, j, none⟩ v) (some x) :=
  ⟨rfl, rfl, rfl, by simp, fun i _ hi => heap_setCell_other w ⟨x, j, none⟩ i v (fun e => hi (by rw [e]))⟩
/-- Two boxes, each with a list of its own that the law has made. -/
structure Fr (W : World) (B x y : Nat) (n : ByteArray) (ka : Nat) (qa : Option Addr) (ca kb : Nat) (qb : Option Addr) (cb : Nat) (us vs : List Bb) : Prop where
  a : W.heap[x]? = some (.cells #[.string n, .slice qa ka ca] 24)
  b : W.heap[y]? = some (.cells #[.string n, .slice qb kb cb] 24)
  oa : W.ownsRow B 47 4 (.slice qa ka ca) ka (flatB us)
  ob : W.ownsRow B 47 4 (.slice qb kb cb) kb (flatB vs)
  ap : ∀ g, Value.ownBlock (.slice qa ka ca) = some g → Value.ownBlock (.slice qb kb cb) ≠ some g
  sz : B ≤ W.heap.size
theorem Fr.swap {W : World} {B x y : Nat} {n : ByteArray} {ka : Nat} {qa : Option Addr} {ca kb : Nat} {qb : Option Addr} {cb : Nat} {us vs : List Bb} (h : Fr W B x y n ka qa ca kb qb cb us vs) : Fr W B y x n kb qb cb ka qa ca vs us :=
  ⟨h.b, h.a, h.ob, h.oa, fun g h1 h2 => h.ap g h2 h1, h.sz⟩
theorem Fr.on {W W' : World} {B x y : Nat} {n : ByteArray} {ka : Nat} {qa : Option Addr} {ca kb : Nat} {qb : Option Addr} {cb : Nat} {us vs : List Bb} (h : Fr W B x y n ka qa ca kb qb cb us vs) (hb : Below W.heap.size W W') : Fr W' B x y n ka qa ca kb qb cb us vs :=
  ⟨(hb.block _ (heap_lt h.a)).trans h.a, (hb.block _ (heap_lt h.b)).trans h.b, own_on h.oa hb, own_on h.ob hb, h.ap, by have := h.sz; have := hb.size; omega⟩
theorem flatB_snoc (us : List Bb) (t : Bb) : flatB (us ++ [t]) = flatB us ++ [.string t.1, .int .i64 t.2.1, .int .i64 t.2.2.1, .string t.2.2.2] := by rw [flatB_app]; rfl
/-- One more at the first one's list. -/
theorem Fr.more {W w1 : World} {B x y : Nat} {n : ByteArray} {ka : Nat} {qa : Option Addr} {ca kb : Nat} {qb : Option Addr} {cb : Nat} {us vs : List Bb} (h : Fr W B x y n ka qa ca kb qb cb us vs) (hx : x < B) (hy : y < B) (hne : x ≠ y) {q : Option Addr} {c : Nat} {t : Bb}
    (hown : w1.ownsRow B 47 4 (.slice q (ka + 1) c) (ka + 1) (flatB us ++ [.string t.1, .int .i64 t.2.1, .int .i64 t.2.2.1, .string t.2.2.2])) (hg : W.grownBy w1 (Value.ownBlock (.slice qa ka ca))) (hat : Value.ownBlock (.slice q (ka + 1) c) = Value.ownBlock (.slice qa ka ca) ∨ Value.ownBlock (.slice q (ka + 1) c) = some W.heap.size) :
    Fr (w1.setCell ⟨x, 1, none⟩ (.slice q (ka + 1) c)) B x y n (ka + 1) q c kb qb cb (us ++ [t]) vs := by
  have nx : ∀ k, k < B → some k ≠ Value.ownBlock (.slice qa ka ca) := fun k hk e => by have := (h.oa.lt k e.symm).1; omega
  have ax := (hg.block x (heap_lt h.a) (nx x hx)).trans h.a
  have by' := (hg.block y (heap_lt h.b) (nx y hy)).trans h.b
  have hob : w1.ownsRow B 47 4 (.slice qb kb cb) kb (flatB vs) := h.ob.kept hg (by
    cases e : Value.ownBlock (.slice qb kb cb) with
    | none => exact Or.inl rfl
    | some k => exact Or.inr (fun e2 => h.ap k e2.symm e))
  have ne : ∀ {v : Value} {m : Nat} {zs : List Value}, w1.ownsRow B 47 4 v m zs → v.ownBlock = none ∨ v.ownBlock ≠ some x := fun {v m zs} ho => by
    cases e : v.ownBlock with
    | none => exact Or.inl rfl
    | some k => exact Or.inr (fun e2 => by have := (ho.lt k e).1; simp at e2; omega)
  refine ⟨?_, ?_, ?_, ?_, ?_, ?_⟩
  · rw [heap_setCell_same w1 x 1 _ 24 _ ax]; rfl
  · rw [heap_setCell_other w1 ⟨x, 1, none⟩ y _ (fun e => hne e.symm)]; exact by'
  · rw [flatB_snoc]
    exact hown.kept (grown_set w1 x 1 _) (ne hown)
  · exact hob.kept (grown_set w1 x 1 _) (ne hob)
  · intro g h1 h2
    rcases hat with e | e
    · rw [e] at h1; exact h.ap g h1 h2
    · rw [e] at h1
      have := (h.ob.lt g h2).2
      simp at h1
      omega
  · have := h.sz
    have := hg.size
    simp
    omega
theorem refFact_x (f : Fb) (q : Bool) (w : World) (hf : f.In w) (hl : f.Light) (H : Hid (rightF f.l = q)) :
    Calls Try.prog 15 #[.agg #[.string f.n, .slice f.a f.len f.cap]] w fun e w' => e = .returned (.bool q) ∧ Below w.heap.size w w' := by
  have := refFact_any f.n f.a f.len f.cap f.vs w hl.n hl.vs hf.row (by rw [hf.len]; omega) (by rw [hf.len]; omega) hl.len
  rw [show rightF (f.n.data.toList, f.vs.map Vb.l) = q from unhide H] at this
  exact this

theorem four_new (w : World) (t : Bb) : ∀ j u, [Value.string t.1, .int .i64 t.2.1, .int .i64 t.2.2.1, .string t.2.2.2][j]? = some u → (w.alloc (bxT t)).drew.cell? ((⟨w.heap.size, 0, none⟩ : Addr).add j) = some u := by
  intro j u h
  obtain ⟨h0, h1, h2, h3⟩ := quadT (heap_alloc_new w (bxT t))
  match j, h with
  | 0, h => simp at h; subst h; exact h0
  | 1, h => simp at h; subst h; exact h1
  | 2, h => simp at h; subst h; exact h2
  | 3, h => simp at h; subst h; exact h3
  | j + 4, h => simp at h
theorem low_block {W w1 : World} {B b : Nat} {e : TypeId} {s : Nat} {v : Value} {m : Nat} {zs : List Value} {o : Obj} (ho : W.ownsRow B e s v m zs) (hg : W.grownBy w1 v.ownBlock) (hb : b < B) (h : W.heap[b]? = some o) : w1.heap[b]? = some o :=
  (hg.block b (heap_lt h) (fun e => by have := (ho.lt b e.symm).1; omega)).trans h
theorem low_cell {W w1 : World} {B b j : Nat} {e : TypeId} {s : Nat} {v u : Value} {m : Nat} {zs : List Value} (ho : W.ownsRow B e s v m zs) (hg : W.grownBy w1 v.ownBlock) (hb : b < B) (h : W.cell? ⟨b, j, none⟩ = some u) : w1.cell? ⟨b, j, none⟩ = some u := by
  have := hg.block b (cell_lt h) (fun e => by have := (ho.lt b e.symm).1; omega)
  simpa [World.cell?, this] using h
theorem low_frozen {W w1 : World} {B b : Nat} {e : TypeId} {s : Nat} {v p q : Value} {m : Nat} {zs : List Value} {T : TypeId} (ho : W.ownsRow B e s v m zs) (hg : W.grownBy w1 v.ownBlock) (hb : b < B) (h : W.heap[b]? = some (.cells #[p, q] T)) : w1.frozen? ⟨b, 1, none⟩ = false :=
  Lib.frozen_of_heap (low_block ho hg hb h) 1
theorem four_one (t : Bb) : ∀ u ∈ [Value.string t.1, .int .i64 t.2.1, .int .i64 t.2.2.1, .string t.2.2.2], u.oneCell' = true := by
  intro u h
  simp only [List.mem_cons, List.not_mem_nil, or_false] at h
  rcases h with rfl | rfl | rfl | rfl <;> rfl
theorem free_next {k : Nat} (hk : k < nmL.length) : freeT (nmL.take (k + 1)) = freeT (nmL.take k) ++ [(nmL[k], zeroV)] := by
  rw [List.take_succ_eq_append_getElem hk, freeT, List.map_append]; rfl
theorem fixed_next {vs : List Vv} {k : Nat} (hk : k < vs.length) : fixedT (vs.take (k + 1)) = fixedT (vs.take k) ++ [(⟨#[]⟩, vs[k])] := by
  rw [List.take_succ_eq_append_getElem hk, fixedT, List.map_append]; rfl
abbrev nmO : Obj := .cells #[.string ⟨#[65]⟩, .string ⟨#[66]⟩, .string ⟨#[67]⟩, .string ⟨#[68]⟩, .string ⟨#[69]⟩] 9
/-- What the law has laid: two boxes with their lists, the names; all else as it was. -/
structure St (s W : World) (z x y : Nat) (n : ByteArray) (ka : Nat) (qa : Option Addr) (ca kb : Nat) (qb : Option Addr) (cb : Nat) (us vs : List Bb) : Prop where
  fr : Fr W (z + 1) x y n ka qa ca kb qb cb us vs
  b : Below s.heap.size s W
  nm : W.heap[z]? = some nmO
theorem St.swap {s W : World} {z x y : Nat} {n : ByteArray} {ka : Nat} {qa : Option Addr} {ca kb : Nat} {qb : Option Addr} {cb : Nat} {us vs : List Bb} (h : St s W z x y n ka qa ca kb qb cb us vs) : St s W z y x n kb qb cb ka qa ca vs us := ⟨h.fr.swap, h.b, h.nm⟩
theorem St.on {s W W' : World} {z x y : Nat} {n : ByteArray} {ka : Nat} {qa : Option Addr} {ca kb : Nat} {qb : Option Addr} {cb : Nat} {us vs : List Bb} (h : St s W z x y n ka qa ca kb qb cb us vs) (hb : Below W.heap.size W W') : St s W' z x y n ka qa ca kb qb cb us vs :=
  ⟨h.fr.on hb, bt h.b hb, (hb.block _ (heap_lt h.nm)).trans h.nm⟩
theorem St.more {s W w1 : World} {z x y : Nat} {n : ByteArray} {ka : Nat} {qa : Option Addr} {ca kb : Nat} {qb : Option Addr} {cb : Nat} {us vs : List Bb} (h : St s W z x y n ka qa ca kb qb cb us vs) (hx : x < z) (hy : y < z) (hne : x ≠ y) (sx : s.heap.size ≤ x) {q : Option Addr} {c : Nat} {t : Bb}
    (hown : w1.ownsRow (z + 1) 47 4 (.slice q (ka + 1) c) (ka + 1) (flatB us ++ [.string t.1, .int .i64 t.2.1, .int .i64 t.2.2.1, .string t.2.2.2])) (hg : W.grownBy w1 (Value.ownBlock (.slice qa ka ca))) (hat : Value.ownBlock (.slice q (ka + 1) c) = Value.ownBlock (.slice qa ka ca) ∨ Value.ownBlock (.slice q (ka + 1) c) = some W.heap.size) :
    St s (w1.setCell ⟨x, 1, none⟩ (.slice q (ka + 1) c)) z x y n (ka + 1) q c kb qb cb (us ++ [t]) vs := by
  refine ⟨h.fr.more (by omega) (by omega) hne hown hg hat, ?_, ?_⟩
  · exact (h.b.grown hg h.b.size (fun j hj => by have := (h.fr.oa.lt j hj).1; omega)).setCell sx _
  · rw [heap_setCell_other w1 ⟨x, 1, none⟩ z _ (by simp; omega)]
    exact low_block h.fr.oa hg (by omega) h.nm
theorem lies_ownT {w : World} {B n cp : Nat} {ao : Option Addr} {xs : List Bb} (h : w.ownsRow B 47 4 (.slice ao n cp) n (flatB xs)) : Lies w ao n cp xs := by
  have hn : n = xs.length := by have := h.1; rw [flatB_len] at this; omega
  refine ⟨?_, hn, (own_nil h).1, (own_nil h).2⟩
  rcases h.2 with ⟨_, h0⟩ | ⟨g, cap, cur, hv, _, hg, _, _, _, ht⟩
  · left; exact List.eq_nil_of_length_eq_zero (by omega)
  · simp only [Value.slice.injEq] at hv
    obtain ⟨rfl, _, _⟩ := hv
    refine Or.inr ⟨g, 0, rfl, heap_lt hg, fun i v hv => ?_⟩
    have hi : i < n := by rw [hn]; exact (List.getElem?_eq_some_iff.1 hv).1
    obtain ⟨h0, h1, h2, h3⟩ := flatB_get xs i v hv
    rw [← ht] at h0 h1 h2 h3
    rw [List.getElem?_take_of_lt (by omega), Array.getElem?_toList] at h0 h1 h2 h3
    rw [Lib.cell_of_heap hg, Lib.cell_of_heap hg, Lib.cell_of_heap hg, Lib.cell_of_heap hg]
    simpa using ⟨h0, h1, h2, h3⟩
theorem lt_free (k : Nat) : ∀ t ∈ freeT (nmL.take k), Lt t := fun t ht => by
  obtain ⟨n, hn, rfl⟩ := List.mem_map.1 ht
  have : ∀ n ∈ nmL, n.size ≤ 200 := by decide
  exact ⟨this n (List.mem_of_mem_take hn), show zeroV.2.2.size ≤ 200 by decide⟩
theorem lt_fixed {f : Fb} (h : f.Light) : ∀ t ∈ fixedT (f.vs.map vv), Lt t := fun t ht => by
  obtain ⟨v, hv, rfl⟩ := List.mem_map.1 ht
  obtain ⟨u, hu, rfl⟩ := List.mem_map.1 hv
  exact ⟨show (⟨#[]⟩ : ByteArray).size ≤ 200 by decide, h.vs u hu⟩
theorem infoT : (Try.prog.info? 47).map (fun i => (i.zero, i.size, i.bytes)) = some (some (.agg #[.string ⟨#[]⟩, .int .i64 0, .int .i64 0, .string ⟨#[]⟩]), 4, 48) := by kernel_rfl
theorem rowS_of {w : World} {b : Nat} {ss : List ByteArray} {T : TypeId} (h : w.heap[b]? = some (.cells (ss.map Value.string).toArray T)) : RowS w (some ⟨b, 0, none⟩) ss := by
  refine Or.inr ⟨b, 0, rfl, heap_lt h, fun i s hs => ?_⟩
  rw [Lib.cell_of_heap h]
  simp [hs]

set_option maxHeartbeats 8000000 in
set_option maxRecDepth 100000 in
theorem free_law (f g : Fb) (w : World) (hf : f.In w) (hg : g.In w) :
    Calls Try.prog 4 #[.agg #[.string f.n, .slice f.a f.len f.cap], .agg #[.string g.n, .slice g.a g.len g.cap]] w fun e w' => e = .returned (.bool true) ∧ Below w.heap.size w w' := by
  obtain ⟨hb0, T⟩ := b2_of w f g hf hg
  clear hf hg
  have hm1 := heavy_fb f _ T.f
  go_enter Try.func4, Try.ntmps4
  go_wp2_with fail
  refine hm1.mono ?_
  rintro e w1 ⟨rfl | ⟨rfl, hF⟩, hb1⟩
  · have hw1 := bt hb0 hb1
    clear hm1 T
    go_wp2_with fail
    go_ret
    exact ⟨rfl, hw1⟩
  have hw1 := bt hb0 hb1
  have T1 := T.on hb1
  clear hm1 T hb0 hb1
  obtain ⟨b0, b1, c0, c1⟩ := T1.cs
  go_wp2_with fail
  refine (heavy_fb g w1 T1.g).mono ?_
  rintro e w2 ⟨rfl | ⟨rfl, hG⟩, hb2⟩
  · have hw2 := bt hw1 hb2
    clear T1 b0 b1 c0 c1
    go_wp2_with fail
    go_ret
    exact ⟨rfl, hw2⟩
  have hw2 := bt hw1 hb2
  have T2 := T1.on hb2
  clear T1 hb2 b0 b1 c0 c1 hw1
  obtain ⟨b0, b1, c0, c1⟩ := T2.cs
  go_wp2_with fail
  cases hrf : rightF f.l with
  | false =>
    refine (refFact_x f false w2 T2.f hF (hide hrf)).mono ?_
    rintro e w3 ⟨rfl, hb3⟩
    have hw3 := bt hw2 hb3
    clear T2 b0 b1 c0 c1 hrf
    go_wp2_with fail
    go_ret
    exact ⟨rfl, hw3⟩
  | true =>
    refine (refFact_x f true w2 T2.f hF (hide hrf)).mono ?_
    rintro e w3 ⟨rfl, hb3⟩
    have hw3 := bt hw2 hb3
    have T3 := T2.on hb3
    have HRF := hide hrf
    clear T2 hb3 b0 b1 c0 c1 hw2 hrf
    obtain ⟨b0, b1, c0, c1⟩ := T3.cs
    go_wp2_with fail
    cases hrg : rightF g.l with
    | false =>
      refine (refFact_x g false w3 T3.g hG (hide hrg)).mono ?_
      rintro e w4 ⟨rfl, hb4⟩
      have hw4 := bt hw3 hb4
      clear T3 b0 b1 c0 c1 hrg
      go_wp2_with fail
      go_ret
      exact ⟨rfl, hw4⟩
    | true =>
      refine (refFact_x g true w3 T3.g hG (hide hrg)).mono ?_
      rintro e w4 ⟨rfl, hb4⟩
      have hw4 := bt hw3 hb4
      have T4 := T3.on hb4
      have HRG := hide hrg
      clear T3 hb4 b0 b1 c0 c1 hw3 hrg
      obtain ⟨b0, b1, c0, c1⟩ := T4.cs
      have hlt := cell_lt b0
      go_upto_region 3 with fail
      go_cut [5, 6] from 32 to 37 (fun p5 p6 wx => ∃ x y : Nat, p5 = .pointer (some ⟨x, 0, none⟩) ∧ p6 = .pointer (some ⟨y, 0, none⟩) ∧ E2 w4 wx f.n x y)
      case first =>
        go_region
        all_goals
          go_wp2_with fail
          go_meet
          first
            | exact ⟨_, _, rfl, rfl, (e2_of w4 f.n).1⟩
            | exact ⟨_, _, rfl, rfl, (e2_of w4 f.n).2⟩
      case rest =>
        obtain ⟨x, y, rfl, rfl, hE⟩ := hcut
        obtain ⟨wz, hwz⟩ : ∃ wz, wz = wc := ⟨_, rfl⟩
        subst hwz
        clear b0 b1 c0 c1 hlt
        obtain ⟨i0, hi, hz0, hz1, hz2⟩ := info_parts infoT
        have hbz : Below wz.heap.size wz (wz.alloc nmO) := (Below.refl _ _).alloc (Nat.le_refl _) _
        have hx := heap_lt hE.hx
        have hy := heap_lt hE.hy
        have hS0 : St w4 (wz.alloc nmO) wz.heap.size x y f.n 0 none 0 0 none 0 [] [] :=
          ⟨⟨(hbz.block _ hx).trans hE.hx, (hbz.block _ hy).trans hE.hy, World.ownsRow_nil _ _ _ _, World.ownsRow_nil _ _ _ _, (fun g h => by cases h), by simp⟩, bt hE.b hbz, heap_alloc_new wz _⟩
        have hne := hE.ne
        have sx := hE.sx
        have sy := hE.sy
        have hb4 := (T4.on hS0.b).cs.2.1
        have hl4 := cell_lt T4.b1
        clear hE
        go_wp2_with fail
        generalize wz.alloc nmO = W at hS0 hbz hb4
        generalize wz.heap.size = z at hS0 hbz hx hy
        clear hbz
        go_loopw [8] (fun i wr => ∃ (k : Nat) (qa : Option Addr) (ca : Nat) (qb : Option Addr) (cb : Nat), k ≤ f.len ∧ i = .int .i64 k ∧ St w4 wr z x y f.n k qa ca k qb cb (freeT (nmL.take k)) (fixedT ((f.vs.map vv).take k))) (fun i _ => f.len - (intOf i).toNat)
        case atStart => exact ⟨0, none, 0, none, 0, Nat.zero_le _, rfl, hS0⟩
        case round =>
          clear hS0 hb4
          obtain ⟨k, qa, ca, qb, cb, hk, rfl, hS⟩ := hrel
          have T := T4.on hS.b
          obtain ⟨b0, b1, c0, c1⟩ := T.cs
          by_cases hlt : k < f.len
          · have hkv : k < f.vs.length := by rw [← T.f.len]; exact hlt
            have hk5 : k < nmL.length := by have := (right_vals (unhide HRF)).1; show k < 5; omega
            have e0 : wr.cell? ⟨z, k, none⟩ = some (.string nmL[k]) := by
              obtain ⟨bn, on, hq, hbn, e0⟩ := (rowS_of (ss := nmL) hS.nm).up hk5
              simp only [Option.some.injEq, Addr.mk.injEq, and_true] at hq
              obtain ⟨rfl, rfl⟩ := hq
              rw [Nat.zero_add] at e0
              exact e0
            have HS := hide (free_next hk5)
            have HV := hide (fixed_next (vs := f.vs.map vv) (k := k) (by rw [List.length_map]; exact hkv))
            have k5 : (k : Int) < 5 := by have : k < 5 := hk5; omega
            have k20 : k ≤ 20 := by have := hF.len; omega
            generalize nmL[k] = s at e0 HS
            clear hk5
            have xa := (pair_of hS.fr.a).2
            have hba : Below wr.heap.size wr (wr.alloc (bxT (s, zeroV))).drew := ((Below.refl _ _).alloc (Nat.le_refl _) _).drew
            have hSa := hS.on hba
            have lx := cell_lt xa
            have le := cell_lt e0
            generalize freeT (nmL.take k) = us at hS HS hSa
            generalize fixedT ((f.vs.map vv).take k) = vs at hS HV hSa
            go_upto_region 8 with fail
            go_cut [8] from 46 to 55 (fun s8 wx => s8 = .int .i64 k ∧ ∃ (q : Option Addr) (c : Nat), St w4 wx z x y f.n (k + 1) q c k qb cb (us ++ [(s, zeroV)]) vs)
            case first =>
              go_region_law ((refine step_append_at (by rfl) _ _ 22 (by rfl) (z + 1) 47 i0 (.agg #[.string ⟨#[]⟩, .int .i64 0, .int .i64 0, .string ⟨#[]⟩]) 4 48 Try.underlying22 hi hz0 hz1 hz2 (by rfl) (by decide) (.slice qa k ca) k (flatB us) (by rfl) hSa.fr.oa ⟨wr.heap.size, 0, none⟩ 1 1 [.string s, .int .i64 0, .int .i64 0, .string ⟨#[]⟩] (by rfl) (by rfl) (four_new wr (s, zeroV)) (four_one (s, zeroV)) (by unfold maxLen; omega) (by omega) hSa.fr.sz ?_; intro v5 w5 hown5 hgrow5 hat5; obtain ⟨q5, c5, rfl⟩ := own_slice hown5; have g1 := low_cell hSa.fr.oa hgrow5 (Nat.lt_succ_of_lt hx) (cell_on hba xa); have g3 := low_frozen hSa.fr.oa hgrow5 (Nat.lt_succ_of_lt hx) hSa.fr.a))
              all_goals
                clear g1 g3
                go_wp2_with fail
                go_meet
                exact ⟨rfl, q5, c5, hSa.more hx hy hne sx (t := (s, zeroV)) hown5 hgrow5 hat5⟩
            case rest =>
              obtain ⟨rfl, qn, cn, hS2⟩ := hcut
              obtain ⟨wy, hwy⟩ : ∃ wy, wy = wc := ⟨_, rfl⟩
              subst hwy
              have T2 := T4.on hS2.b
              obtain ⟨b', o', hfa, hbl', d0, d1, d2⟩ := T2.f.row.up hkv
              have b1r := T2.b1
              rw [hfa] at b1r
              have HV' : Hid (fixedT ((f.vs.map vv).take (k + 1)) = vs ++ [(⟨#[]⟩, vv f.vs[k])]) := by
                have h := unhide HV
                rw [List.getElem_map] at h
                exact h
              clear hfa b0 b1 c0 c1 xa e0 hba hSa lx le T hS HV
              have d0' : wy.cell? ⟨b', o' + k * 3, none⟩ = some (.int .i64 (vv f.vs[k]).1) := d0
              have d1' : wy.cell? ⟨b', o' + k * 3 + 1, none⟩ = some (.int .i64 (vv f.vs[k]).2.1) := d1
              have d2' : wy.cell? ⟨b', o' + k * 3 + 2, none⟩ = some (.string (vv f.vs[k]).2.2) := d2
              clear d0 d1 d2
              generalize vv f.vs[k] = v at d0' d1' d2' HV'
              have ya := (pair_of hS2.fr.b).2
              have hba : Below wy.heap.size wy (wy.alloc (bxT (⟨#[]⟩, v))).drew := ((Below.refl _ _).alloc (Nat.le_refl _) _).drew
              have hSb := hS2.swap.on hba
              have ly := cell_lt ya
              have l1 := cell_lt b1r
              have l2 := cell_lt d0'
              have e2 : (k : Int) < (f.len : Int) := by omega
              clear T2
              go_wp2_with fail
              go_region_law ((refine step_append_at (by rfl) _ _ 22 (by rfl) (z + 1) 47 i0 (.agg #[.string ⟨#[]⟩, .int .i64 0, .int .i64 0, .string ⟨#[]⟩]) 4 48 Try.underlying22 hi hz0 hz1 hz2 (by rfl) (by decide) (.slice qb k cb) k (flatB vs) (by rfl) hSb.fr.oa ⟨wy.heap.size, 0, none⟩ 1 1 [.string ⟨#[]⟩, .int .i64 v.1, .int .i64 v.2.1, .string v.2.2] (by rfl) (by rfl) (four_new wy (⟨#[]⟩, v)) (four_one (⟨#[]⟩, v)) (by unfold maxLen; omega) (by omega) hSb.fr.sz ?_; intro v5 w5 hown5 hgrow5 hat5; obtain ⟨q5, c5, rfl⟩ := own_slice hown5; have g1 := low_cell hSb.fr.oa hgrow5 (Nat.lt_succ_of_lt hy) (cell_on hba ya); have g3 := low_frozen hSb.fr.oa hgrow5 (Nat.lt_succ_of_lt hy) hSb.fr.a))
              all_goals
                have hS3 := (hSb.more hy hx (Ne.symm hne) sy (t := (⟨#[]⟩, v)) hown5 hgrow5 hat5).swap
                clear g1 g3 ya hba hSb ly l1 l2 b1r d0' d1' d2' hS2
                go_wp2_with fail
                go_roundw
                case rel => exact ⟨k + 1, qn, cn, q5, c5, by omega, by go_num, by rw [unhide HS, unhide HV']; exact hS3⟩
                case measure => simp [intOf]; omega
          · have hkl : k = f.len := by omega
            have hkv : k = f.vs.length := hkl.trans T.f.len
            have HKV := hide hkv
            have hLa := lies_ownT hS.fr.oa
            have hLb := lies_ownT hS.fr.ob
            have hb1 := hide (show (f.vs.map vv).take k = f.vs.map vv from List.take_of_length_le (by rw [List.length_map, ← hkv]; exact Nat.le_refl _))
            have HT1 : Hid (∀ t ∈ freeT (nmL.take k), Lt t) := hide (lt_free k)
            have HT2 : Hid (∀ t ∈ fixedT (f.vs.map vv), Lt t) := hide (lt_fixed hF)
            rw [unhide hb1] at hLb
            have k20 : k ≤ 20 := by have := hF.len; omega
            clear hkl hkv hb1
            have xa := pair_of hS.fr.a
            have ya := pair_of hS.fr.b
            obtain ⟨xa0, xa1⟩ := xa
            obtain ⟨ya0, ya1⟩ := ya
            have hwr := bt hw4 hS.b
            have nm := hS.nm
            clear hS
            obtain ⟨m, hm1, hm2, hm3⟩ := free_one (unhide HRF) (unhide HRG)
            have hfx := fixed_one (unhide HRF) (unhide HRG)
            rw [← unhide HKV] at hm1
            obtain ⟨ok, hok⟩ : ∃ b, b = (decide (f.n = g.n) && decide (k = g.vs.length)) := ⟨_, rfl⟩
            rw [← hok] at hm1
            rw [unhide HKV] at hok
            have HOK := hide hok.symm
            clear hok
            have HM1 := hide hm1
            have HLM := hide hm2
            have HGT := hide hm3
            have HFX := hide hfx
            clear hm1 hm2 hm3 hfx
            obtain ⟨qq, hqq⟩ : ∃ b, decide (f.l = g.l) = b := ⟨_, rfl⟩
            rw [hqq] at HFX
            have HQ := hide hqq
            clear hqq
            go_wp2_with fail
            refine (one_any f.n qa k ca (freeT (nmL.take k)) g none 0 0 [] m ok wr hF.n (unhide HT1) hLa k20 T.g hG (lies_none _) (by omega) (by intro x hx; cases hx) HM1).mono ?_
            rintro e w5 ⟨q5, m5, d5, rfl, hl5, hb5⟩
            have hw5 := bt hwr hb5
            have T5 := T.on hb5
            replace hLb := hLb.on hb5
            replace ya0 := cell_on hb5 ya0
            replace ya1 := cell_on hb5 ya1
            have nm5 := (hb5.block _ (heap_lt nm)).trans nm
            have hm5 : m5 ≤ 100 := by have := hl5.len; have := list_len (unhide HLM); omega
            clear hLa xa0 xa1 hb5 hwr T b0 b1 c0 c1 HM1 HT1 nm
            obtain ⟨b0, b1, c0, c1⟩ := T5.cs
            go_wp2_with fail
            refine (one_any f.n qb k cb (fixedT (f.vs.map vv)) g none 0 0 [] [] qq w5 hF.n (unhide HT2) hLb k20 T5.g hG (lies_none _) (by omega) (by intro x hx; cases hx) HFX).mono ?_
            rintro e w6 ⟨q6, m6, d6, rfl, hl6, hb6⟩
            obtain rfl : m6 = 0 := hl6.len
            have hw6 := bt hw5 hb6
            have T6 := T5.on hb6
            replace hl5 := hl5.on hb6
            have nm6 := (hb6.block _ (heap_lt nm5)).trans nm5
            clear hLb ya0 ya1 hb6 hw5 T5 b0 b1 c0 c1 HT2 HFX nm5
            obtain ⟨b0, b1, c0, c1⟩ := T6.cs
            by_cases hnn : f.n = g.n
            · have dn := str_t hnn
              have HNN := hide hnn
              by_cases hll : f.len = g.len
              · have dl : ((f.len : Int) == g.len) = true := by simp; omega
                have HLL : Hid (f.vs.length = g.vs.length) := hide (by rw [← T6.f.len, ← T6.g.len]; exact hll)
                obtain rfl : true = ok := by rw [← unhide HOK, decide_eq_true hnn, decide_eq_true (unhide HLL)]; rfl
                clear hnn hll HOK
                go_wp2_with fail
                refine (keepFact_x f g qq w6 T6.f T6.g (by have := hF.len; omega) HQ).mono ?_
                rintro e w7 ⟨rfl, hb7⟩
                have hw7 := bt hw6 hb7
                have T7 := T6.on hb7
                have nm7 := (hb7.block _ (heap_lt nm6)).trans nm6
                replace hl5 := hl5.on hb7
                clear T6 nm6 hb7 hw6 b0 b1 c0 c1 hl6
                go_wp2_with fail
                go_loopw [13, 14, 15] (fun i _ _ wr => ∃ k : Nat, k ≤ g.len ∧ i = .int .i64 k ∧ Below w7.heap.size w7 wr) (fun i _ _ _ => g.len - (intOf i).toNat)
                case atStart => exact ⟨0, Nat.zero_le _, rfl, Below.refl _ _⟩
                case round =>
                  obtain ⟨k, hk, rfl, hbw⟩ := hrel
                  have Tr := T7.on hbw
                  obtain ⟨b0, b1, c0, c1⟩ := Tr.cs
                  by_cases hlt : k < g.len
                  · have hkv : k < g.vs.length := by rw [← Tr.g.len]; exact hlt
                    have hk5 : k < nmL.length := by have := (right_vals (unhide HRG)).1; show k < 5; omega
                    have e0 : wr.cell? ⟨z, k, none⟩ = some (.string nmL[k]) := by
                      obtain ⟨bn, on, hq, hbn, e0⟩ := (rowS_of (ss := nmL) ((hbw.block _ (heap_lt nm7)).trans nm7)).up hk5
                      simp only [Option.some.injEq, Addr.mk.injEq, and_true] at hq
                      obtain ⟨rfl, rfl⟩ := hq
                      rw [Nat.zero_add] at e0
                      exact e0
                    have hgv := unhide HGT (unhide HNN) (unhide HLL) k hkv hk5
                    have k5 : (k : Int) < 5 := by have : k < 5 := hk5; omega
                    generalize nmL[k] = s at e0 hgv
                    clear hk5
                    obtain ⟨b', o', hga, hbl', d0, d1, d2⟩ := Tr.g.row.up hkv
                    have d0' : wr.cell? ⟨b', o' + k * 3, none⟩ = some (.int .i64 (vv g.vs[k]).1) := d0
                    have d1' : wr.cell? ⟨b', o' + k * 3 + 1, none⟩ = some (.int .i64 (vv g.vs[k]).2.1) := d1
                    have d2' : wr.cell? ⟨b', o' + k * 3 + 2, none⟩ = some (.string (vv g.vs[k]).2.2) := d2
                    clear d0 d1 d2
                    generalize vv g.vs[k] = v at d0' d1' d2' hgv
                    have hl5r := hl5.on hbw
                    go_wp2_with fail
                    refine (get_any q5 m5 d5 m s v true wr hl5r.row hl5r.le hl5r.ge (by omega) (lt_list (unhide HLM)) (hide hgv)).mono ?_
                    rintro e w9 ⟨rfl, hb9⟩
                    have c1r := cell_on hb9 c1
                    rw [hga] at c1r
                    replace d0' := cell_on hb9 d0'
                    replace d1' := cell_on hb9 d1'
                    replace d2' := cell_on hb9 d2'
                    have hbw9 := bt hbw hb9
                    have lt1 := cell_lt c1r
                    have lt2 := cell_lt d0'
                    have hEq := eqV0 v v
                    rw [decide_eq_true rfl] at hEq
                    have e2 : (k : Int) < (g.len : Int) := by omega
                    clear hgv hb9 e0 hl5r b0 b1 c0 c1 hga Tr
                    have hbx : Below w7.heap.size w7 (w9.alloc (bxV v)) := hbw9.alloc hbw9.size _
                    go_wp2_with fail
                    go_quiet (fail)
                    go_wp2_with fail
                    go_roundw
                    case rel => exact ⟨k + 1, by omega, by go_num, below_drewN hbx _⟩
                    case measure => simp [intOf]; omega
                  · have hv13 := bt hw7 hbw
                    go_wp2_with fail
                    refine (wakes_any wr).mono ?_
                    rintro e w13 ⟨rfl, hb13⟩
                    have hw13 := bt hv13 hb13
                    clear hb13
                    go_wp2_with fail
                    go_ret
                    exact ⟨rfl, hw13⟩

              · have dl : ((f.len : Int) == g.len) = false := by simp; omega
                obtain rfl : false = ok := by rw [← unhide HOK, decide_eq_false (show ¬ f.vs.length = g.vs.length by rw [← T6.f.len, ← T6.g.len]; exact hll), Bool.and_false]
                clear hnn hll HOK
                go_wp2_with fail
                refine (keepFact_x f g qq w6 T6.f T6.g (by have := hF.len; omega) HQ).mono ?_
                rintro e w7 ⟨rfl, hb7⟩
                have hw7 := bt hw6 hb7
                have T7 := T6.on hb7
                have nm7 := (hb7.block _ (heap_lt nm6)).trans nm6
                replace hl5 := hl5.on hb7
                clear T6 nm6 hb7 hw6 b0 b1 c0 c1 hl6
                go_wp2_with fail
                go_loopw [13, 14, 15] (fun i _ _ wr => ∃ k : Nat, k ≤ g.len ∧ i = .int .i64 k ∧ Below w7.heap.size w7 wr) (fun i _ _ _ => g.len - (intOf i).toNat)
                case atStart => exact ⟨0, Nat.zero_le _, rfl, Below.refl _ _⟩
                case round =>
                  obtain ⟨k, hk, rfl, hbw⟩ := hrel
                  have Tr := T7.on hbw
                  obtain ⟨b0, b1, c0, c1⟩ := Tr.cs
                  by_cases hlt : k < g.len
                  · have hv13 := bt hw7 hbw
                    go_wp2_with fail
                    refine (wakes_any wr).mono ?_
                    rintro e w13 ⟨rfl, hb13⟩
                    have hw13 := bt hv13 hb13
                    clear hb13
                    go_wp2_with fail
                    go_ret
                    exact ⟨rfl, hw13⟩

                  · have hv13 := bt hw7 hbw
                    go_wp2_with fail
                    refine (wakes_any wr).mono ?_
                    rintro e w13 ⟨rfl, hb13⟩
                    have hw13 := bt hv13 hb13
                    clear hb13
                    go_wp2_with fail
                    go_ret
                    exact ⟨rfl, hw13⟩

            · have dn := str_f hnn
              obtain rfl : false = ok := by rw [← unhide HOK, decide_eq_false hnn, Bool.false_and]
              clear hnn HOK
              go_wp2_with fail
              refine (keepFact_x f g qq w6 T6.f T6.g (by have := hF.len; omega) HQ).mono ?_
              rintro e w7 ⟨rfl, hb7⟩
              have hw7 := bt hw6 hb7
              have T7 := T6.on hb7
              have nm7 := (hb7.block _ (heap_lt nm6)).trans nm6
              replace hl5 := hl5.on hb7
              clear T6 nm6 hb7 hw6 b0 b1 c0 c1 hl6
              go_wp2_with fail
              go_loopw [13, 14, 15] (fun i _ _ wr => ∃ k : Nat, k ≤ g.len ∧ i = .int .i64 k ∧ Below w7.heap.size w7 wr) (fun i _ _ _ => g.len - (intOf i).toNat)
              case atStart => exact ⟨0, Nat.zero_le _, rfl, Below.refl _ _⟩
              case round =>
                obtain ⟨k, hk, rfl, hbw⟩ := hrel
                have Tr := T7.on hbw
                obtain ⟨b0, b1, c0, c1⟩ := Tr.cs
                by_cases hlt : k < g.len
                · have hv13 := bt hw7 hbw
                  go_wp2_with fail
                  refine (wakes_any wr).mono ?_
                  rintro e w13 ⟨rfl, hb13⟩
                  have hw13 := bt hv13 hb13
                  clear hb13
                  go_wp2_with fail
                  go_ret
                  exact ⟨rfl, hw13⟩

                · have hv13 := bt hw7 hbw
                  go_wp2_with fail
                  refine (wakes_any wr).mono ?_
                  rintro e w13 ⟨rfl, hb13⟩
                  have hw13 := bt hv13 hb13
                  clear hb13
                  go_wp2_with fail
                  go_ret
                  exact ⟨rfl, hw13⟩

end Go.Proofs.Ytmoalmpcobljkaa.Sb

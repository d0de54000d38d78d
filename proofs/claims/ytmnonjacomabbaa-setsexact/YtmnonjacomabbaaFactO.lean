/- What constablekeep.TwinFact answers: the same fact, its arguments in new memory. -/
import Derived.Test.YtmnonjacomabbaaFactN
import Derived.Laws.AppendOwnNone
namespace Go.Proofs.Ytmnonjacomabbaa
open Go.RowKit
open V

theorem info44 : (Try.prog.info? 47).map (fun i => (i.zero, i.size, i.bytes)) = some (some (.agg #[.int .i64 0, .int .i64 0, .string ⟨#[]⟩]), 3, 32) := by kernel_rfl

theorem flat_cells {W : World} {b : Nat} (vs : List Vb) : ∀ (o : Nat), (∀ (i : Nat) (v : Vb), vs[i]? = some v → W.cell? ⟨b, o + i * 3, none⟩ = some (.int .i64 v.k) ∧ W.cell? ⟨b, o + i * 3 + 1, none⟩ = some (.int .i64 v.n) ∧ W.cell? ⟨b, o + i * 3 + 2, none⟩ = some (.string v.s)) → ∀ (j : Nat) (u : Value), (flatV vs)[j]? = some u → W.cell? ⟨b, o + j, none⟩ = some u := by
  induction vs with
  | nil => intro o _ j u h; simp [flatV] at h
  | cons x r ih =>
    intro o hc j u h
    match j with
    | 0 =>
      simp [flatV] at h; subst h
      have := (hc 0 x rfl).1
      simpa using this
    | 1 =>
      simp [flatV] at h; subst h
      have := (hc 0 x rfl).2.1
      simpa using this
    | 2 =>
      simp [flatV] at h; subst h
      have := (hc 0 x rfl).2.2
      simpa using this
    | j + 3 =>
      have := ih (o + 3) (fun i v hv => by
        have := hc (i + 1) v (by simpa using hv)
        rw [show o + (i + 1) * 3 = o + 3 + i * 3 by omega] at this
        exact this) j u (by simpa [flatV] using h)
      rw [show o + (j + 3) = o + 3 + j by omega]
      exact this
theorem flat_one (vs : List Vb) : ∀ u ∈ flatV vs, u.oneCell' = true := by
  induction vs with
  | nil => intro u h; simp [flatV] at h
  | cons x r ih =>
    intro u h
    simp only [flatV, List.mem_cons] at h
    rcases h with rfl | rfl | rfl | h
    · rfl
    · rfl
    · rfl
    · exact ih u h
theorem flat_len (vs : List Vb) : (flatV vs).length = vs.length * 3 := by
  induction vs with
  | nil => rfl
  | cons x r ih => simp [flatV, ih]; omega


theorem rowV_own {w : World} {B n cp : Nat} {ao : Option Addr} {vs : List Vb} (h : w.ownsRow B 47 3 (.slice ao n cp) n (flatV vs)) (hn : n = vs.length) : RowV w ao vs := by
  rcases h.2 with ⟨_, h0⟩ | ⟨g, cap, cur, hv, _, hg, _, _, _, ht⟩
  · left; exact List.eq_nil_of_length_eq_zero (by omega)
  · simp only [Value.slice.injEq] at hv
    obtain ⟨rfl, _, _⟩ := hv
    refine Or.inr ⟨g, 0, rfl, (Array.getElem?_eq_some_iff.1 hg).1, fun i v hv => ?_⟩
    have hi : i < n := by rw [hn]; exact (List.getElem?_eq_some_iff.1 hv).1
    obtain ⟨h0, h1, h2⟩ := flatV_get vs i v hv
    rw [← ht] at h0 h1 h2
    rw [List.getElem?_take_of_lt (by omega), Array.getElem?_toList] at h0 h1 h2
    rw [Lib.cell_of_heap hg, Lib.cell_of_heap hg, Lib.cell_of_heap hg]
    simpa using ⟨h0, h1, h2⟩

/-- The law's three boxes: what is handed in, the answer, the twin. -/
abbrev twA (n : ByteArray) (a : Option Addr) (len cap : Nat) : Obj := .cells #[.string n, .slice a len cap] 25
theorem tw_world (w : World) (A B C : Obj) : Below w.heap.size w (((w.alloc A).alloc B).alloc C) ∧ (((w.alloc A).alloc B).alloc C).heap[w.heap.size + 1]? = some B ∧ (((w.alloc A).alloc B).alloc C).heap[w.heap.size + 1 + 1]? = some C ∧ (((w.alloc A).alloc B).alloc C).heap.size = w.heap.size + 3 := by
  have s1 : (w.alloc A).heap.size = w.heap.size + 1 := by simp
  have s2 : ((w.alloc A).alloc B).heap.size = w.heap.size + 1 + 1 := by simp
  have h3 := heap_alloc_new ((w.alloc A).alloc B) C
  have h2 := heap_alloc_new (w.alloc A) B
  rw [s2] at h3
  rw [s1] at h2
  rw [← Lib.alloc_old _ C _ (by rw [s2]; omega)] at h2
  exact ⟨(((Below.refl _ _).alloc (Nat.le_refl _) _).alloc (by simp) _).alloc (by simp; omega) _, h2, h3, by simp⟩

set_option maxHeartbeats 4000000 in
theorem twin_some (n : ByteArray) (ad : Addr) (len cap : Nat) (vs : List Vb) (w : World) (hc : Hid (∀ (j : Nat) (u : Value), (flatV vs)[j]? = some u → w.cell? (ad.add j) = some u)) (hl : len ≤ vs.length) (hl' : vs.length ≤ len) (h20 : len ≤ 20) :
    Calls Try.prog 28 #[.agg #[.string n, .slice (some ad) len cap]] w fun e w' => ∃ f : Fb, e = .returned (.agg #[.string f.n, .slice f.a f.len f.cap]) ∧ f.In w' ∧ f.n = n ∧ f.vs = vs ∧ Below w.heap.size w w' := by
  obtain ⟨i0, hi, hz0, hz1, hz2⟩ := info_parts info44
  obtain ⟨tb, t1, t2, ts⟩ := tw_world w (twA n (some ad) len cap) (.cells #[.string ⟨#[]⟩, .slice none 0 0] 25) (.cells #[.string n, .slice none 0 0] 25)
  go_enter Try.func28, Try.ntmps28
  go_wp2_with (at_builtin; refine wpList_append_own_wide _ rfl _ _ 23 rfl (w.heap.size + 3) 47 i0 (.agg #[.int .i64 0, .int .i64 0, .string ⟨#[]⟩]) 3 32 Try.underlying23 hi hz0 hz1 hz2 rfl (by decide) _ 0 [] rfl ⟨rfl, Or.inl ⟨rfl, rfl⟩⟩ ad len cap (flatV vs) rfl ?c0 ?c1 ?c2 ?c3 ?c4 ?c5 ?_)
  case c0 => rw [flat_len]; omega
  case c1 =>
    intro j u hu
    exact cell_on tb (unhide hc j u hu)
  case c2 => exact flat_one vs
  case c3 => unfold maxLen; omega
  case c4 => omega
  case c5 => simp
  intro v' w2 hown' hgrow hnil
  have u1 : w2.heap[w.heap.size + 1]? = some (.cells #[.string ⟨#[]⟩, .slice none 0 0] 25) := (hgrow.block _ (by simp) (by simp [Value.ownBlock])).trans t1
  have u2 : w2.heap[w.heap.size + 1 + 1]? = some (.cells #[.string n, .slice none 0 0] 25) := (hgrow.block _ (by simp) (by simp [Value.ownBlock])).trans t2
  have b2 : Below w.heap.size w w2 := tb.grown hgrow (by simp; omega) (by simp [Value.ownBlock])
  clear t1 t2 hnil tb ts hgrow
  obtain ⟨x0, x1⟩ := pair_of u1
  obtain ⟨y0, y1⟩ := pair_of u2
  have z0 : w2.frozen? ⟨w.heap.size + 1, 0, none⟩ = false := Lib.frozen_of_heap u1 0
  have z1 : w2.frozen? ⟨w.heap.size + 1, 1, none⟩ = false := Lib.frozen_of_heap u1 1
  have z2 : w2.frozen? ⟨w.heap.size + 1 + 1, 1, none⟩ = false := Lib.frozen_of_heap u2 1
  obtain ⟨ao, cp, rfl⟩ : ∃ ao cp, v' = .slice ao len cp := by
    rcases hown'.2 with ⟨hv, h0⟩ | ⟨g, cap, cur, hv, _⟩
    · exact ⟨none, 0, by rw [hv, h0]⟩
    · exact ⟨_, _, hv⟩
  go_wp2
  have o1 := ownsRow_setCell_below hown' (a := ⟨w.heap.size + 1 + 1, 1, none⟩) (by show w.heap.size + 1 + 1 < w.heap.size + 3; omega) (.slice ao len cp)
  have o2 := ownsRow_setCell_below o1 (a := ⟨w.heap.size + 1, 0, none⟩) (by show w.heap.size + 1 < w.heap.size + 3; omega) (.string n)
  have o3 := ownsRow_setCell_below o2 (a := ⟨w.heap.size + 1, 1, none⟩) (by show w.heap.size + 1 < w.heap.size + 3; omega) (.slice ao len cp)
  refine bodyPost_ret (v := .agg #[.string n, .slice ao len cp]) (by simp [results, Try.results28, go_sem, x0, x1]) rfl ?_
  refine ⟨⟨n, ao, len, cp, vs⟩, rfl, ⟨rowV_own (vs := vs) o3 (by omega), by show len = vs.length; omega⟩, rfl, rfl, ?_⟩
  exact ((b2.setCell (p := ⟨w.heap.size + 1 + 1, 1, none⟩) (by show w.heap.size ≤ w.heap.size + 1 + 1; omega) _).setCell (p := ⟨w.heap.size + 1, 0, none⟩) (by show w.heap.size ≤ w.heap.size + 1; omega) _).setCell (p := ⟨w.heap.size + 1, 1, none⟩) (by show w.heap.size ≤ w.heap.size + 1; omega) _

set_option maxHeartbeats 1000000 in
theorem twin_none (n : ByteArray) (w : World) :
    Calls Try.prog 28 #[.agg #[.string n, .slice none 0 0]] w fun e w' => ∃ f : Fb, e = .returned (.agg #[.string f.n, .slice f.a f.len f.cap]) ∧ f.In w' ∧ f.n = n ∧ f.vs = [] ∧ Below w.heap.size w w' := by
  obtain ⟨i0, hi, hz0, hz1, hz2⟩ := info_parts info44
  go_enter Try.func28, Try.ntmps28
  go_wp2_with (at_builtin; refine wpList_append_own_none rfl _ _ 23 rfl (w.heap.size + 3) 47 i0 3 Try.underlying23 hi _ 0 [] rfl ⟨rfl, Or.inl ⟨rfl, rfl⟩⟩ rfl ?_)
  refine bodyPost_ret (v := .agg #[.string n, .slice none 0 0]) (by simp [results, Try.results28, go_sem]) rfl ?_
  exact ⟨⟨n, none, 0, 0, []⟩, rfl, ⟨Or.inl rfl, rfl⟩, rfl, rfl, (((Below.refl _ _).alloc (Nat.le_refl _) _).alloc (by simp) _).alloc (by simp; omega) _⟩

/-- A fact's twin: the same name, the same arguments, in new memory. -/
theorem twin_fb (f : Fb) (w : World) (hf : f.In w) (hnil : f.a = none → f.cap = 0) (h20 : f.len ≤ 20) :
    Calls Try.prog 28 #[.agg #[.string f.n, .slice f.a f.len f.cap]] w fun e w' => ∃ g : Fb, e = .returned (.agg #[.string g.n, .slice g.a g.len g.cap]) ∧ g.In w' ∧ g.n = f.n ∧ g.vs = f.vs ∧ Below w.heap.size w w' := by
  obtain ⟨n, a, len, cap, vs⟩ := f
  obtain ⟨hrow, hlen⟩ := hf
  simp only at hrow hlen hnil h20 ⊢
  cases a with
  | none =>
    have hv : vs = [] := by
      rcases hrow with h | ⟨b, o, h, _⟩
      · exact h
      · cases h
    subst hv
    simp at hlen
    have := hnil rfl
    subst hlen this
    exact twin_none n w
  | some ad =>
    refine twin_some n ad len cap vs w (hide ?_) (by omega) (by omega) h20
    rcases hrow with h | ⟨b, o, h, hlt, hc⟩
    · subst h; intro j u hu; simp [flatV] at hu
    · simp only [Option.some.injEq] at h
      subst h
      intro j u hu
      rw [WideShapes.add_plain]
      exact flat_cells vs o hc j u hu
end Go.Proofs.Ytmnonjacomabbaa

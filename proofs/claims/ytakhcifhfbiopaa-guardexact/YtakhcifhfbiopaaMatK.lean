/- What the document's Term and Atom, and constablekeep.TwinAtom answer. -/
import Derived.Test.YtakhcifhfbiopaaAtmA
namespace Go.Proofs.Ytakhcifhfbiopaa.Sb
open Go.RowKit
open V

theorem cell_on' {W w1 : World} {p : Addr} {v : Value} (hb : Below W.heap.size W w1) (h : W.cell? p = some v) : w1.cell? p = some v := by
  have hl : p.block < W.heap.size := by
    rcases Nat.lt_or_ge p.block W.heap.size with h' | h'
    · exact h'
    · simp [World.cell?, Array.getElem?_eq_none h'] at h
  rw [hb.cell hl]; exact h

theorem infoT : (Try.prog.info? 73).map (fun i => (i.zero, i.size, i.bytes)) = some (some (.agg #[.string ⟨#[]⟩, .int .i64 0, .int .i64 0, .string ⟨#[]⟩]), 4, 48) := by kernel_rfl
set_option maxHeartbeats 2000000 in
theorem twinA_some (n : ByteArray) (ad : Addr) (len cap : Nat) (ts : List Bb) (w : World) (hc : Hid (∀ (j : Nat) (u : Value), (flatB ts)[j]? = some u → w.cell? (ad.add j) = some u)) (hl : len ≤ ts.length) (hl' : ts.length ≤ len) (h20 : len ≤ 20) :
    Calls Try.prog 24 #[.agg #[.string n, .slice (some ad) len cap]] w fun e w' => ∃ (q : Option Addr) (c : Nat), e = .returned (.agg #[.string n, .slice q len c]) ∧ w'.ownsRow (w.heap.size + 3) 73 4 (.slice q len c) len (flatB ts) ∧ Below w.heap.size w w' := by
  obtain ⟨i0, hi, hz0, hz1, hz2⟩ := info_parts infoT
  obtain ⟨tb, -, t1, t2⟩ := three_of w (bxA n (some ad) len cap) (.cells #[.string ⟨#[]⟩, .slice none 0 0] 26) (.cells #[.string n, .slice none 0 0] 26)
  go_enter Try.func24, Try.ntmps24
  go_wp2_with (at_builtin; refine wpList_append_own_wide _ rfl _ _ 24 rfl (w.heap.size + 3) 73 i0 (.agg #[.string ⟨#[]⟩, .int .i64 0, .int .i64 0, .string ⟨#[]⟩]) 4 48 Try.underlying24 hi hz0 hz1 hz2 rfl (by decide) _ 0 [] rfl ⟨rfl, Or.inl ⟨rfl, rfl⟩⟩ ad len cap (flatB ts) rfl ?c0 ?c1 ?c2 ?c3 ?c4 ?c5 ?_)
  case c0 => rw [flatB_len]; omega
  case c1 =>
    intro j u hu
    exact cell_on' tb (unhide hc j u hu)
  case c2 => exact flatB_oneCell ts
  case c3 => unfold maxLen; omega
  case c4 => omega
  case c5 => simp
  intro v' w2 hown' hgrow hnil
  have u1 : w2.heap[w.heap.size + 1]? = some (.cells #[.string ⟨#[]⟩, .slice none 0 0] 26) := (hgrow.block _ (by simp) (by simp [Value.ownBlock])).trans t1
  have u2 : w2.heap[w.heap.size + 1 + 1]? = some (.cells #[.string n, .slice none 0 0] 26) := (hgrow.block _ (by simp) (by simp [Value.ownBlock])).trans t2
  have b2 : Below w.heap.size w w2 := tb.grown hgrow (by simp; omega) (by simp [Value.ownBlock])
  clear t1 t2 hnil tb hgrow
  obtain ⟨x0, x1⟩ := pair_of u1
  obtain ⟨y0, y1⟩ := pair_of u2
  have z0 : w2.frozen? ⟨w.heap.size + 1, 0, none⟩ = false := Lib.frozen_of_heap u1 0
  have z1 : w2.frozen? ⟨w.heap.size + 1, 1, none⟩ = false := Lib.frozen_of_heap u1 1
  have z2 : w2.frozen? ⟨w.heap.size + 1 + 1, 1, none⟩ = false := Lib.frozen_of_heap u2 1
  obtain ⟨ao, cp, rfl⟩ := own_slice hown'
  go_wp2_with fail
  have o1 := ownsRow_setCell_below hown' (a := ⟨w.heap.size + 1 + 1, 1, none⟩) (by show w.heap.size + 1 + 1 < w.heap.size + 3; omega) (.slice ao len cp)
  have o2 := ownsRow_setCell_below o1 (a := ⟨w.heap.size + 1, 0, none⟩) (by show w.heap.size + 1 < w.heap.size + 3; omega) (.string n)
  have o3 := ownsRow_setCell_below o2 (a := ⟨w.heap.size + 1, 1, none⟩) (by show w.heap.size + 1 < w.heap.size + 3; omega) (.slice ao len cp)
  refine bodyPost_ret (v := .agg #[.string n, .slice ao len cp]) (by simp [results, Try.results24, go_sem, x0, x1]) rfl ?_
  refine ⟨ao, cp, rfl, o3, ?_⟩
  exact ((b2.setCell (p := ⟨w.heap.size + 1 + 1, 1, none⟩) (by show w.heap.size ≤ w.heap.size + 1 + 1; omega) _).setCell (p := ⟨w.heap.size + 1, 0, none⟩) (by show w.heap.size ≤ w.heap.size + 1; omega) _).setCell (p := ⟨w.heap.size + 1, 1, none⟩) (by show w.heap.size ≤ w.heap.size + 1; omega) _
set_option maxHeartbeats 1000000 in
theorem twinA_none (n : ByteArray) (w : World) :
    Calls Try.prog 24 #[.agg #[.string n, .slice none 0 0]] w fun e w' => ∃ (q : Option Addr) (c : Nat), e = .returned (.agg #[.string n, .slice q 0 c]) ∧ w'.ownsRow (w.heap.size + 3) 73 4 (.slice q 0 c) 0 (flatB []) ∧ Below w.heap.size w w' := by
  obtain ⟨i0, hi, hz0, hz1, hz2⟩ := info_parts infoT
  go_enter Try.func24, Try.ntmps24
  go_wp2_with (at_builtin; refine wpList_append_own_none rfl _ _ 24 rfl (w.heap.size + 3) 73 i0 4 Try.underlying24 hi _ 0 [] rfl ⟨rfl, Or.inl ⟨rfl, rfl⟩⟩ rfl ?_)
  refine bodyPost_ret (v := .agg #[.string n, .slice none 0 0]) (by simp [results, Try.results24, go_sem]) rfl ?_
  exact ⟨none, 0, rfl, World.ownsRow_nil _ _ _ _, (((Below.refl _ _).alloc (Nat.le_refl _) _).alloc (by simp) _).alloc (by simp; omega) _⟩
/-- An atom's twin: the same name, the same terms, in new memory. -/
theorem twinA_any (n : ByteArray) (a : Option Addr) (len cap : Nat) (ts : List Bb) (w : World) (hA : Lies w a len cap ts) (h20 : len ≤ 20) :
    Calls Try.prog 24 #[.agg #[.string n, .slice a len cap]] w fun e w' => ∃ (q : Option Addr) (c : Nat), e = .returned (.agg #[.string n, .slice q len c]) ∧ w'.ownsRow w.heap.size 73 4 (.slice q len c) len (flatB ts) ∧ Below w.heap.size w w' := by
  obtain ⟨hrow, hlen, hnil, hcap⟩ := hA
  cases a with
  | none =>
    have h0 := hnil rfl
    subst h0
    have hl0 : len = 0 := by omega
    subst hl0
    have hxe : ts = [] := List.eq_nil_of_length_eq_zero hlen.symm
    subst hxe
    refine (twinA_none n w).mono ?_
    rintro e w' ⟨q, c, rfl, h1, h2⟩
    exact ⟨q, c, rfl, own_mono h1 (by omega), h2⟩
  | some ad =>
    refine (twinA_some n ad len cap ts w (hide (row_cells hrow)) (by omega) (by omega) h20).mono ?_
    rintro e w' ⟨q, c, rfl, h1, h2⟩
    exact ⟨q, c, rfl, own_mono h1 (by omega), h2⟩
end Go.Proofs.Ytakhcifhfbiopaa.Sb

/- What is new memory: rows that a call owns; what slices.Grow of nothing and slices.Concat answer. -/
import Derived.Test.YtakhcifhfbiopaaSubF
namespace Go.Proofs.Ytakhcifhfbiopaa.Sb
open Go.RowKit
open V

theorem infoB : (Try.prog.info? 54).map (fun i => (i.zero, i.size, i.bytes)) = some (some (.agg #[.string ⟨#[]⟩, .int .i64 0, .int .i64 0, .string ⟨#[]⟩]), 4, 48) := by kernel_rfl
theorem info_parts {t : TypeId} {z : Value} {s b : Nat} (h : (Try.prog.info? t).map (fun i => (i.zero, i.size, i.bytes)) = some (some z, s, b)) : ∃ i, Try.prog.info? t = some i ∧ i.zero = some z ∧ i.size = s ∧ i.bytes = b := by
  cases hi : Try.prog.info? t with
  | none => rw [hi] at h; cases h
  | some i =>
    rw [hi] at h
    simp only [Option.map_some, Option.some.injEq, Prod.mk.injEq] at h
    exact ⟨i, rfl, h.1, h.2.1, h.2.2⟩

theorem own_on {w w' : World} {B : Nat} {e : TypeId} {s : Nat} {v : Value} {n : Nat} {xs : List Value} (h : w.ownsRow B e s v n xs) (hb : Below w.heap.size w w') : w'.ownsRow B e s v n xs :=
  h.kept (row := none) ⟨hb.os, hb.tape, hb.output, hb.size, fun k hk _ => hb.block k hk⟩ (by cases hv : v.ownBlock <;> simp)
theorem own_mono {w : World} {B B' : Nat} {e : TypeId} {s : Nat} {v : Value} {n : Nat} {xs : List Value} (h : w.ownsRow B e s v n xs) (hB : B' ≤ B) : w.ownsRow B' e s v n xs := by
  refine ⟨h.1, ?_⟩
  rcases h.2 with h | ⟨g, cap, cur, hv, hb, r⟩
  · exact Or.inl h
  · exact Or.inr ⟨g, cap, cur, hv, by omega, r⟩
theorem own_slice {w : World} {B : Nat} {e : TypeId} {s : Nat} {v : Value} {n : Nat} {xs : List Value} (h : w.ownsRow B e s v n xs) : ∃ a cap, v = .slice a n cap := by
  rcases h.2 with ⟨hv, h0⟩ | ⟨g, cap, cur, hv, _⟩
  · exact ⟨none, 0, by rw [hv, h0]⟩
  · exact ⟨_, _, hv⟩
theorem own_drew {w : World} {B : Nat} {e : TypeId} {s : Nat} {v : Value} {n : Nat} {xs : List Value} (h : w.ownsRow B e s v n xs) : w.drew.ownsRow B e s v n xs := h
theorem own_nil {w : World} {B : Nat} {e : TypeId} {s : Nat} {a : Option Addr} {n cap : Nat} {xs : List Value} (h : w.ownsRow B e s (.slice a n cap) n xs) : (a = none → cap = 0) ∧ n ≤ cap := by
  rcases h.2 with ⟨hv, h0⟩ | ⟨g, cap', cur, hv, _, _, hc, _⟩
  · simp at hv; exact ⟨fun _ => hv.2.2, by omega⟩
  · simp only [Value.slice.injEq] at hv
    obtain ⟨rfl, _, rfl⟩ := hv
    exact ⟨by simp, hc⟩
theorem rowB_own {w : World} {B n cp : Nat} {ao : Option Addr} {xs : List Bb} (h : w.ownsRow B 54 4 (.slice ao n cp) n (flatB xs)) (hn : n = xs.length) : RowB w ao xs := by
  rcases h.2 with ⟨_, h0⟩ | ⟨g, cap, cur, hv, _, hg, _, _, _, ht⟩
  · left; exact List.eq_nil_of_length_eq_zero (by omega)
  · simp only [Value.slice.injEq] at hv
    obtain ⟨rfl, _, _⟩ := hv
    refine Or.inr ⟨g, 0, rfl, (Array.getElem?_eq_some_iff.1 hg).1, fun i v hv => ?_⟩
    have hi : i < n := by rw [hn]; exact (List.getElem?_eq_some_iff.1 hv).1
    obtain ⟨h0, h1, h2, h3⟩ := flatB_get xs i v hv
    rw [← ht] at h0 h1 h2 h3
    rw [List.getElem?_take_of_lt (by omega), Array.getElem?_toList] at h0 h1 h2 h3
    rw [Lib.cell_of_heap hg, Lib.cell_of_heap hg, Lib.cell_of_heap hg, Lib.cell_of_heap hg]
    simpa using ⟨h0, h1, h2, h3⟩

/-- A list lies at a slice. -/
structure Lies (w : World) (a : Option Addr) (n cap : Nat) (xs : List Bb) : Prop where
  row : RowB w a xs
  len : n = xs.length
  nil : a = none → cap = 0
  cap : n ≤ cap
theorem Lies.on {w w' : World} {a : Option Addr} {n cap : Nat} {xs : List Bb} (h : Lies w a n cap xs) (hb : Below w.heap.size w w') : Lies w' a n cap xs := ⟨h.row.on hb, h.len, h.nil, h.cap⟩
theorem Lies.le {w : World} {a : Option Addr} {n cap : Nat} {xs : List Bb} (h : Lies w a n cap xs) : n ≤ xs.length := by rw [h.len]; exact Nat.le_refl _
theorem Lies.ge {w : World} {a : Option Addr} {n cap : Nat} {xs : List Bb} (h : Lies w a n cap xs) : xs.length ≤ n := by rw [h.len]; exact Nat.le_refl _
theorem lies_own {w : World} {B n cp : Nat} {ao : Option Addr} {xs : List Bb} (h : w.ownsRow B 54 4 (.slice ao n cp) n (flatB xs)) : Lies w ao n cp xs := by
  have hn : n = xs.length := by have := h.1; rw [flatB_len] at this; omega
  exact ⟨rowB_own h hn, hn, (own_nil h).1, (own_nil h).2⟩
theorem lies_none (w : World) : Lies w none 0 0 [] := ⟨Or.inl rfl, rfl, fun _ => rfl, Nat.le_refl _⟩

theorem flatB_cells {W : World} {b o : Nat} (xs : List Bb) (hc : ∀ (i : Nat) (x : Bb), xs[i]? = some x → W.cell? ⟨b, o + i * 4, none⟩ = some (.string x.1) ∧ W.cell? ⟨b, o + i * 4 + 1, none⟩ = some (.int .i64 x.2.1) ∧ W.cell? ⟨b, o + i * 4 + 2, none⟩ = some (.int .i64 x.2.2.1) ∧ W.cell? ⟨b, o + i * 4 + 3, none⟩ = some (.string x.2.2.2)) : ∀ (j : Nat) (u : Value), (flatB xs)[j]? = some u → W.cell? ⟨b, o + j, none⟩ = some u := by
  induction xs generalizing o with
  | nil => intro j u h; simp [flatB] at h
  | cons x r ih =>
    intro j u h
    obtain ⟨h0, h1, h2, h3⟩ := hc 0 x rfl
    match j with
    | 0 => simp [flatB] at h; subst h; simpa using h0
    | 1 => simp [flatB] at h; subst h; simpa using h1
    | 2 => simp [flatB] at h; subst h; simpa using h2
    | 3 => simp [flatB] at h; subst h; simpa using h3
    | j + 4 =>
      have := ih (o := o + 4) (fun i v hv => by
        have := hc (i + 1) v (by simpa using hv)
        rw [show o + (i + 1) * 4 = o + 4 + i * 4 by omega] at this
        exact this) j u (by simpa [flatB] using h)
      rw [show o + (j + 4) = o + 4 + j by omega]
      exact this
theorem row_cells {W : World} {ad : Addr} {xs : List Bb} (h : RowB W (some ad) xs) : ∀ (j : Nat) (u : Value), (flatB xs)[j]? = some u → W.cell? (ad.add j) = some u := by
  rcases h with h | ⟨b, o, h, hlt, hc⟩
  · subst h; intro j u hu; simp [flatB] at hu
  · simp only [Option.some.injEq] at h
    subst h
    intro j u hu
    rw [WideShapes.add_plain]
    exact flatB_cells xs hc j u hu

/-- A list, as it is handed on. -/
structure Lb where
  a : Option Addr
  len : Nat
  cap : Nat
  xs : List Bb
/-- A row of lists lies at block b. -/
def RowL (w : World) (b : Nat) (ls : List Lb) : Prop := b < w.heap.size ∧ ∀ (i : Nat) (l : Lb), ls[i]? = some l → w.cell? ⟨b, i, none⟩ = some (.slice l.a l.len l.cap) ∧ Lies w l.a l.len l.cap l.xs
theorem RowL.on {w w' : World} {b : Nat} {ls : List Lb} (h : RowL w b ls) (hb : Below w.heap.size w w') : RowL w' b ls :=
  ⟨by have := h.1; have := hb.size; omega, fun i l hl => ⟨cell_on hb (h.2 i l hl).1, (h.2 i l hl).2.on hb⟩⟩
theorem RowL.up {w : World} {b : Nat} {ls : List Lb} {i : Nat} (h : RowL w b ls) (hi : i < ls.length) : w.cell? ⟨b, i, none⟩ = some (.slice ls[i].a ls[i].len ls[i].cap) ∧ Lies w ls[i].a ls[i].len ls[i].cap ls[i].xs := h.2 i ls[i] (by simp [hi])
def allL (ls : List Lb) : List Bb := ls.flatMap Lb.xs
def sumL (ls : List Lb) : Nat := (ls.map Lb.len).sum
theorem allL_snoc (ls : List Lb) (l : Lb) : allL (ls ++ [l]) = allL ls ++ l.xs := by simp [allL]
theorem sumL_snoc (ls : List Lb) (l : Lb) : sumL (ls ++ [l]) = sumL ls + l.len := by simp [sumL]
theorem sumL_take (ls : List Lb) (k : Nat) : sumL (ls.take k) ≤ sumL ls := by
  induction ls generalizing k with
  | nil => simp
  | cons x r ih =>
    cases k with
    | zero => simp [sumL]
    | succ k => have := ih k; simp [sumL] at this ⊢; omega

end Go.Proofs.Ytakhcifhfbiopaa.Sb

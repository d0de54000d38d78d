/- How a row of signs lies in memory; append of one sign to a row that the call owns. -/
import Derived.Test.YtaapeleoiclplaaDoorLexF
import Derived.Laws.OwnMore
import Derived.Maps.AppendAt
import Derived.Deep.DeepAppendWide
import Derived.Deep.RegionHeld3
import Derived.WideShapes
namespace Go.Proofs.YtaapeleoiclplaaDoor
open Go.RowKit
open V

theorem cell_lt {w : World} {b o : Nat} {v : Value} (h : w.cell? ⟨b, o, none⟩ = some v) : b < w.heap.size := by
  by_cases hb : b < w.heap.size
  · exact hb
  · simp [World.cell?, Array.getElem?_eq_none (show w.heap.size ≤ b by omega)] at h
theorem cell_on {w w' : World} {b o : Nat} {v : Value} (hb : Below w.heap.size w w') (h : w.cell? ⟨b, o, none⟩ = some v) : w'.cell? ⟨b, o, none⟩ = some v :=
  (hb.cell (p := ⟨b, o, none⟩) (cell_lt h)).trans h
/-- A sign as it lies in memory: kind, text, line, column. -/
abbrev Tm := Int × ByteArray × Int × Int
abbrev bxT (x : Tm) : Obj := .cells #[.int .i64 x.1, .string x.2.1, .int .i64 x.2.2.1, .int .i64 x.2.2.2] 30
def flatT : List Tm → List Value
  | [] => []
  | x :: r => .int .i64 x.1 :: .string x.2.1 :: .int .i64 x.2.2.1 :: .int .i64 x.2.2.2 :: flatT r
theorem flatT_app (xs ys : List Tm) : flatT (xs ++ ys) = flatT xs ++ flatT ys := by
  induction xs with
  | nil => rfl
  | cons x r ih => simp [flatT, ih]
theorem flatT_len (xs : List Tm) : (flatT xs).length = xs.length * 4 := by
  induction xs with
  | nil => rfl
  | cons x r ih => simp [flatT, ih]; omega
theorem flatT_get (xs : List Tm) : ∀ (i : Nat) (x : Tm), xs[i]? = some x → (flatT xs)[i * 4]? = some (.int .i64 x.1) ∧ (flatT xs)[i * 4 + 1]? = some (.string x.2.1) ∧ (flatT xs)[i * 4 + 2]? = some (.int .i64 x.2.2.1) ∧ (flatT xs)[i * 4 + 3]? = some (.int .i64 x.2.2.2) := by
  induction xs with
  | nil => intro i x h; simp at h
  | cons y r ih =>
    intro i x h
    match i with
    | 0 => simp at h; subst h; simp [flatT]
    | i + 1 =>
      have := ih i x (by simpa using h)
      rw [show (i + 1) * 4 = i * 4 + 1 + 1 + 1 + 1 by omega]
      simpa [flatT] using this
theorem flatT_oneCell (xs : List Tm) : ∀ u ∈ flatT xs, u.oneCell' = true := by
  induction xs with
  | nil => intro u h; simp [flatT] at h
  | cons x r ih =>
    intro u h
    simp only [flatT, List.mem_cons] at h
    rcases h with rfl | rfl | rfl | rfl | h
    · rfl
    · rfl
    · rfl
    · rfl
    · exact ih u h
/-- A row of them lies at a. -/
def RowT (w : World) (a : Option Addr) (xs : List Tm) : Prop :=
  xs = [] ∨ ∃ b o, a = some ⟨b, o, none⟩ ∧ b < w.heap.size ∧ ∀ (i : Nat) (x : Tm), xs[i]? = some x →
    w.cell? ⟨b, o + i * 4, none⟩ = some (.int .i64 x.1) ∧ w.cell? ⟨b, o + i * 4 + 1, none⟩ = some (.string x.2.1) ∧ w.cell? ⟨b, o + i * 4 + 2, none⟩ = some (.int .i64 x.2.2.1) ∧ w.cell? ⟨b, o + i * 4 + 3, none⟩ = some (.int .i64 x.2.2.2)
theorem RowT.on {w w' : World} {a : Option Addr} {xs : List Tm} (h : RowT w a xs) (hb : Below w.heap.size w w') : RowT w' a xs := by
  rcases h with h | ⟨b, o, ha, hlt, hc⟩
  · exact Or.inl h
  · refine Or.inr ⟨b, o, ha, by have := hb.size; omega, fun i v hv => ?_⟩
    obtain ⟨h0, h1, h2, h3⟩ := hc i v hv
    exact ⟨cell_on hb h0, cell_on hb h1, cell_on hb h2, cell_on hb h3⟩
theorem RowT.up {w : World} {a : Option Addr} {xs : List Tm} {i : Nat} (h : RowT w a xs) (hi : i < xs.length) : ∃ b o, a = some ⟨b, o, none⟩ ∧ b < w.heap.size ∧
    w.cell? ⟨b, o + i * 4, none⟩ = some (.int .i64 xs[i].1) ∧ w.cell? ⟨b, o + i * 4 + 1, none⟩ = some (.string xs[i].2.1) ∧ w.cell? ⟨b, o + i * 4 + 2, none⟩ = some (.int .i64 xs[i].2.2.1) ∧ w.cell? ⟨b, o + i * 4 + 3, none⟩ = some (.int .i64 xs[i].2.2.2) := by
  rcases h with h | ⟨b, o, ha, hlt, hc⟩
  · subst h; simp at hi
  · exact ⟨b, o, ha, hlt, hc i xs[i] (by simp [hi])⟩
/-- A piece of a row: l[p:q]. -/
theorem RowT.cut {w : World} {b o : Nat} {xs : List Tm} (h : RowT w (some ⟨b, o, none⟩) xs) (p k : Nat) : RowT w (some ⟨b, o + p * 4, none⟩) ((xs.drop p).take k) := by
  rcases h with h | ⟨b', o', ha, hlt, hc⟩
  · left; subst h; simp
  · simp only [Option.some.injEq, Addr.mk.injEq, and_true] at ha
    obtain ⟨rfl, rfl⟩ := ha
    refine Or.inr ⟨b, o + p * 4, rfl, hlt, fun i x hx => ?_⟩
    have hx' : xs[p + i]? = some x := by
      have hk : i < k := by
        have := (List.getElem?_eq_some_iff.1 hx).1
        simp at this; omega
      rw [List.getElem?_take_of_lt hk, List.getElem?_drop] at hx
      exact hx
    have := hc (p + i) x hx'
    rw [show o + (p + i) * 4 = o + p * 4 + i * 4 by omega] at this
    exact this
/-- A list of signs lies at a slice. -/
structure LiesT (w : World) (a : Option Addr) (n cap : Nat) (xs : List Tm) : Prop where
  row : RowT w a xs
  len : n = xs.length
  nil : a = none → cap = 0
  cap : n ≤ cap
theorem LiesT.on {w w' : World} {a : Option Addr} {n cap : Nat} {xs : List Tm} (h : LiesT w a n cap xs) (hb : Below w.heap.size w w') : LiesT w' a n cap xs := ⟨h.row.on hb, h.len, h.nil, h.cap⟩
theorem LiesT.le {w : World} {a : Option Addr} {n cap : Nat} {xs : List Tm} (h : LiesT w a n cap xs) : n ≤ xs.length := by rw [h.len]; exact Nat.le_refl _
theorem LiesT.ge {w : World} {a : Option Addr} {n cap : Nat} {xs : List Tm} (h : LiesT w a n cap xs) : xs.length ≤ n := by rw [h.len]; exact Nat.le_refl _
theorem liesT_none (w : World) : LiesT w none 0 0 [] := ⟨Or.inl rfl, rfl, fun _ => rfl, Nat.le_refl _⟩
theorem liesT_own {w : World} {B n cp : Nat} {e : TypeId} {ao : Option Addr} {xs : List Tm} (h : w.ownsRow B e 4 (.slice ao n cp) n (flatT xs)) : LiesT w ao n cp xs := by
  have hn : n = xs.length := by have := h.1; rw [flatT_len] at this; omega
  rcases h.2 with ⟨hv, h0⟩ | ⟨g, cap, cur, hv, _, hg, hc, _, _, ht⟩
  · simp only [Value.slice.injEq] at hv
    exact ⟨Or.inl (List.eq_nil_of_length_eq_zero (by omega)), hn, fun _ => hv.2.2, by omega⟩
  · simp only [Value.slice.injEq] at hv
    obtain ⟨rfl, _, rfl⟩ := hv
    refine ⟨Or.inr ⟨g, 0, rfl, (Array.getElem?_eq_some_iff.1 hg).1, fun i v hv => ?_⟩, hn, (fun h => by cases h), hc⟩
    have hi : i < n := by rw [hn]; exact (List.getElem?_eq_some_iff.1 hv).1
    obtain ⟨h0, h1, h2, h3⟩ := flatT_get xs i v hv
    rw [← ht] at h0 h1 h2 h3
    rw [List.getElem?_take_of_lt (by omega), Array.getElem?_toList] at h0 h1 h2 h3
    rw [Lib.cell_of_heap hg, Lib.cell_of_heap hg, Lib.cell_of_heap hg, Lib.cell_of_heap hg]
    simpa using ⟨h0, h1, h2, h3⟩

def OwnT (w : World) (B : Nat) (v : Value) (xs : List Tm) : Prop := w.ownsRow B 30 4 v xs.length (flatT xs)
theorem ownT_nil (w : World) (B : Nat) : OwnT w B (.slice none 0 0) [] := World.ownsRow_nil _ _ _ _
theorem ownT_alloc {w : World} {B : Nat} {v : Value} {xs : List Tm} (h : OwnT w B v xs) (o : Obj) : OwnT (w.alloc o) B v xs := World.ownsRow.alloc h o
theorem own_on {w w' : World} {B e size n : Nat} {v : Value} {xs : List Value} (h : w.ownsRow B e size v n xs) (hb : Below w.heap.size w w') : w'.ownsRow B e size v n xs := by
  refine ⟨h.1, ?_⟩
  rcases h.2 with hn | ⟨g, cap, cur, rfl, hg, hgg, rest⟩
  · exact .inl hn
  · exact .inr ⟨g, cap, cur, rfl, hg, by rw [hb.block g (Array.getElem?_eq_some_iff.1 hgg).1]; exact hgg, rest⟩
theorem OwnT.on {w w' : World} {B : Nat} {v : Value} {xs : List Tm} (h : OwnT w B v xs) (hb : Below w.heap.size w w') : OwnT w' B v xs := own_on h hb
theorem OwnT.other {w : World} {B : Nat} {v : Value} {xs : List Tm} (h : OwnT w B v xs) {g : Nat} (hne : v.ownBlock ≠ some g) (o : Nat) (u : Value) : OwnT (w.setCell ⟨g, o, none⟩ u) B v xs :=
  ownsRow_setCell_other h hne u
theorem OwnT.lt {w : World} {B : Nat} {v : Value} {xs : List Tm} (h : OwnT w B v xs) : ∀ m, v.ownBlock = some m → B ≤ m ∧ m < w.heap.size := fun m hm => World.ownsRow.lt h m hm
theorem OwnT.slice {w : World} {B : Nat} {v : Value} {xs : List Tm} (h : OwnT w B v xs) : ∃ a n c, v = .slice a n c ∧ LiesT w a n c xs := by
  have h' := h
  rcases h.2 with ⟨rfl, h0⟩ | ⟨g, cap, cur, rfl, _⟩
  · refine ⟨none, 0, 0, rfl, ?_⟩
    have : xs = [] := List.eq_nil_of_length_eq_zero h0
    subst this; exact liesT_none w
  · exact ⟨_, _, _, rfl, liesT_own h'⟩
theorem infoT : (Tryd.prog.info? 30).map (fun i => (i.zero, i.size, i.bytes)) = some (some (.agg #[.int .i64 0, .string ⟨#[]⟩, .int .i64 0, .int .i64 0]), 4, 40) := by kernel_rfl
theorem step_append_wide {P : Program} {w : World} {ops : Array Oper} {o : Oper} {a : Act} {K : Act → World → Prop} {Q : Exit → Act → World → Prop} {E : Prop} (hgd : o.guard = none) (s x : Operand) (t : TypeId)
    (ho : o.op = .call { callee := .builtin .append, args := #[s, x], argTypes := #[t, t] })
    (base : Nat) (e : TypeId) (i : TypeInfo) (z : Value) (size bytes : Nat) (ht : P.underlying t = some (.slice e)) (hi : P.info? e = some i) (hz : i.zero = some z)
    (hsize : i.size = size) (hby : i.bytes = bytes) (hzs : z.cells.size = size) (hsz : 0 < size)
    (v : Value) (n : Nat) (xs : List Value) (hs : a.eval s = v) (hown : w.ownsRow base e size v n xs)
    (ad : Addr) (m c : Nat) (news : List Value) (hx : a.eval x = .slice (some ad) m c) (hl : news.length = m * size) (hnews : ∀ j u, news[j]? = some u → w.cell? (ad.add j) = some u) (h1 : ∀ u ∈ news, u.oneCell' = true)
    (h63 : n + m ≤ maxLen) (hbytes : ((n + m) + (n + m) / 4 + 192) * bytes ≤ 281474976710656) (hbase : base ≤ w.heap.size)
    (h : ∀ v' w', w'.ownsRow base e size v' (n + m) (xs ++ news) → w.grownBy w' v.ownBlock → (v' = .slice none 0 0 ↔ v = .slice none 0 0 ∧ m = 0) → K (a.put o.dst v') w') :
    if Region.wanted o (yielded ops a.tmps) = true then Oper.wp P o a w K Q else E := by
  have hw : Region.wanted o (yielded ops a.tmps) = true := by simp [Region.wanted, hgd]
  rw [if_pos hw]
  exact wp_append_own_wide w s x t ho base e i z size bytes ht hi hz hsize hby hzs hsz v n xs hs hown ad m c news hx hl hnews h1 h63 hbytes hbase h


theorem OwnT.less {w : World} {B C : Nat} {v : Value} {xs : List Tm} (h : OwnT w C v xs) (hc : B ≤ C) : OwnT w B v xs := by
  refine ⟨h.1, ?_⟩
  rcases h.2 with hn | ⟨g, cap, cur, rfl, hg, rest⟩
  · exact .inl hn
  · exact .inr ⟨g, cap, cur, rfl, by omega, rest⟩
theorem OwnT.drew {w : World} {B : Nat} {v : Value} {xs : List Tm} (h : OwnT w B v xs) : OwnT w.drew B v xs := h
theorem PB.grown {w w' : World} {b : Nat} {l c : Int} {r : Option Nat} (h : PB w b l c) (hg : w.grownBy w' r) (hne : r ≠ some b) : PB w' b l c :=
  ⟨by rw [hg.block b h.lt (fun e => hne e.symm)]; exact h.at_⟩
theorem OwnT.ne {w : World} {b : Nat} {v : Value} {xs : List Tm} (h : OwnT w (b + 1) v xs) : v.ownBlock ≠ some b := fun e => by have := (h.lt b e).1; omega
theorem OwnT.set {w : World} {b : Nat} {v : Value} {xs : List Tm} (h : OwnT w (b + 1) v xs) (o : Nat) (u : Value) : OwnT (w.setCell ⟨b, o, none⟩ u) (b + 1) v xs := h.other h.ne o u
/-- The cells of one sign in a block of its own. -/
theorem cells_t {W : World} {b : Nat} {x : Tm} (h : W.heap[b]? = some (bxT x)) : ∀ (j : Nat) (u : Value), (flatT [x])[j]? = some u → W.cell? ((⟨b, 0, none⟩ : Addr).add j) = some u := by
  intro j u hu
  rw [WideShapes.add_plain, Lib.cell_of_heap h]
  match j, hu with
  | 0, hu => simpa [flatT] using hu
  | 1, hu => simpa [flatT] using hu
  | 2, hu => simpa [flatT] using hu
  | 3, hu => simpa [flatT] using hu
  | j + 4, hu => simp [flatT] at hu
theorem OwnT.more {w : World} {B n : Nat} {v : Value} {xs : List Tm} {u : Tm} (h : w.ownsRow B 30 4 v (n + 1) (flatT xs ++ flatT [u])) (hn : n = xs.length) : OwnT w B v (xs ++ [u]) := by
  unfold OwnT
  rw [flatT_app, List.length_append, ← hn]
  exact h
end Go.Proofs.YtaapeleoiclplaaDoor

/- Joined: FoA FoJ FoB FoC FoD FoE FoF FoG FoH FoK FoI FoL FoM. -/
import Derived.Test.YtcjnhhbcleljmaaGreatDoorRuZd
import Derived.Test.YtcjnhhbcleljmaaGreatDoorForZa
import Derived.Test.YtcjnhhbcleljmaaGreatDoorRvZb
namespace Go.Proofs.YtcjnhhbcleljmaaGreatDoor.Sb
open Go.RowKit
open V

/-- A node, as it is handed on: kind, atom, A, B. -/
structure Nz where
  k : Int
  n : ByteArray
  a : Option Addr
  m : Nat
  mc : Nat
  ts : List Bb
  A : Int
  B : Int
/-- In plain words. -/
def Nz.pl (z : Nz) : Np := (z.k, (z.n.data.toList, z.ts), z.A, z.B)
/-- Its terms lie there. -/
def Nz.In (z : Nz) (w : World) : Prop := Lies w z.a z.m z.mc z.ts
theorem Nz.In.on {z : Nz} {w w' : World} (h : z.In w) (hb : Below w.heap.size w w') : z.In w' := Lies.on h hb
structure Nz.Light (z : Nz) : Prop where
  n : z.n.size ≤ 200
  m : z.m ≤ 20
  t : ∀ t ∈ z.ts, Lt t
abbrev bxNd (z : Nz) : Obj := .cells #[.int .i64 z.k, .string z.n, .slice z.a z.m z.mc, .int .i64 z.A, .int .i64 z.B] 72
abbrev aggN (z : Nz) : Value := .agg #[.int .i64 z.k, .string z.n, .slice z.a z.m z.mc, .int .i64 z.A, .int .i64 z.B]
/-- Its box. -/
structure BN (W : World) (b : Nat) (z : Nz) : Prop where
  c0 : W.cell? ⟨b, 0, none⟩ = some (.int .i64 z.k)
  c1 : W.cell? ⟨b, 1, none⟩ = some (.string z.n)
  c2 : W.cell? ⟨b, 2, none⟩ = some (.slice z.a z.m z.mc)
  c3 : W.cell? ⟨b, 3, none⟩ = some (.int .i64 z.A)
  c4 : W.cell? ⟨b, 4, none⟩ = some (.int .i64 z.B)
theorem bn_of {W : World} {b : Nat} {z : Nz} (h : W.heap[b]? = some (bxNd z)) : BN W b z := by
  refine ⟨?_, ?_, ?_, ?_, ?_⟩ <;> (rw [Lib.cell_of_heap h]; rfl)
theorem BN.on {W w1 : World} {b : Nat} {z : Nz} (T : BN W b z) (hb : Below W.heap.size W w1) : BN w1 b z :=
  ⟨cell_on hb T.c0, cell_on hb T.c1, cell_on hb T.c2, cell_on hb T.c3, cell_on hb T.c4⟩
/-- A row of nodes lies at a. -/
def RowN (w : World) (a : Option Addr) (zs : List Nz) : Prop :=
  zs = [] ∨ ∃ b o, a = some ⟨b, o, none⟩ ∧ b < w.heap.size ∧ ∀ (i : Nat) (z : Nz), zs[i]? = some z →
    w.cell? ⟨b, o + i * 5, none⟩ = some (.int .i64 z.k) ∧ w.cell? ⟨b, o + i * 5 + 1, none⟩ = some (.string z.n) ∧ w.cell? ⟨b, o + i * 5 + 2, none⟩ = some (.slice z.a z.m z.mc) ∧ w.cell? ⟨b, o + i * 5 + 3, none⟩ = some (.int .i64 z.A) ∧ w.cell? ⟨b, o + i * 5 + 4, none⟩ = some (.int .i64 z.B)
theorem RowN.on {w w' : World} {a : Option Addr} {zs : List Nz} (h : RowN w a zs) (hb : Below w.heap.size w w') : RowN w' a zs := by
  rcases h with h | ⟨b, o, ha, hlt, hc⟩
  · exact Or.inl h
  · refine Or.inr ⟨b, o, ha, by have := hb.size; omega, fun i v hv => ?_⟩
    obtain ⟨h0, h1, h2, h3, h4⟩ := hc i v hv
    exact ⟨cell_on hb h0, cell_on hb h1, cell_on hb h2, cell_on hb h3, cell_on hb h4⟩
theorem RowN.up {w : World} {a : Option Addr} {zs : List Nz} {i : Nat} (h : RowN w a zs) (hi : i < zs.length) : ∃ b o, a = some ⟨b, o, none⟩ ∧ b < w.heap.size ∧
    w.cell? ⟨b, o + i * 5, none⟩ = some (.int .i64 zs[i].k) ∧ w.cell? ⟨b, o + i * 5 + 1, none⟩ = some (.string zs[i].n) ∧ w.cell? ⟨b, o + i * 5 + 2, none⟩ = some (.slice zs[i].a zs[i].m zs[i].mc) ∧ w.cell? ⟨b, o + i * 5 + 3, none⟩ = some (.int .i64 zs[i].A) ∧ w.cell? ⟨b, o + i * 5 + 4, none⟩ = some (.int .i64 zs[i].B) := by
  rcases h with h | ⟨b, o, ha, hlt, hc⟩
  · subst h; simp at hi
  · exact ⟨b, o, ha, hlt, hc i zs[i] (by simp [hi])⟩
/-- A list of nodes lies at a slice. -/
structure LiesN (w : World) (a : Option Addr) (n cap : Nat) (zs : List Nz) : Prop where
  row : RowN w a zs
  le : n ≤ zs.length
  ge : zs.length ≤ n
  nil : a = none → cap = 0
  cap : n ≤ cap
  all : ∀ z ∈ zs, z.In w
theorem LiesN.on {w w' : World} {a : Option Addr} {n cap : Nat} {zs : List Nz} (h : LiesN w a n cap zs) (hb : Below w.heap.size w w') : LiesN w' a n cap zs := ⟨h.row.on hb, h.le, h.ge, h.nil, h.cap, fun e he => (h.all e he).on hb⟩
theorem liesN_none (w : World) : LiesN w none 0 0 [] := ⟨Or.inl rfl, Nat.le_refl _, Nat.le_refl _, fun _ => rfl, Nat.le_refl _, fun z hz => by cases hz⟩

/-- A node's row of terms, the call's own, beside v's block. -/
structure Nz.Own (z : Nz) (w : World) (B : Nat) (v : Value) : Prop where
  t : w.ownsRow B 141 4 (.slice z.a z.m z.mc) z.m (flatB z.ts)
  ta : Apart (.slice z.a z.m z.mc) v
theorem Nz.Own.on {z : Nz} {w w' : World} {B : Nat} {v : Value} (h : z.Own w B v) (hb : Below w.heap.size w w') : z.Own w' B v := ⟨own_on h.t hb, h.ta⟩
theorem Nz.Own.turn {z : Nz} {w w' : World} {b B : Nat} {v : Value} (h : z.Own w B v) (ht : Turns b w w') (hb : b < B) : z.Own w' B v := ⟨own_turn h.t ht hb, h.ta⟩
theorem Nz.Own.beside {z : Nz} {w w' : World} {B : Nat} {v v' : Value} (h : z.Own w B v) (hg : w.grownBy w' v.ownBlock) (h5 : v'.ownBlock = v.ownBlock ∨ v'.ownBlock = some w.heap.size) : z.Own w' B v' :=
  ⟨h.t.kept hg h.ta.ne, apart_to h.ta h5 (fun m hm => (h.t.lt m hm).2)⟩
theorem Nz.Own.lies {z : Nz} {w : World} {B : Nat} {v : Value} (h : z.Own w B v) : z.In w := lies_ownE h.t
/-- A node's cells. -/
abbrev flatN (z : Nz) : List Value := [.int .i64 z.k, .string z.n, .slice z.a z.m z.mc, .int .i64 z.A, .int .i64 z.B]
def flatNs (zs : List Nz) : List Value := zs.flatMap flatN
theorem flatNs_app (xs ys : List Nz) : flatNs (xs ++ ys) = flatNs xs ++ flatNs ys := by simp [flatNs]
theorem flatNs_one (z : Nz) : flatNs [z] = flatN z := by simp [flatNs]
theorem flatNs_len (xs : List Nz) : (flatNs xs).length = xs.length * 5 := by
  induction xs with
  | nil => rfl
  | cons x r ih => rw [show x :: r = [x] ++ r from rfl, flatNs_app, List.length_append, ih, flatNs_one]; simp; omega
theorem flatNs_get (xs : List Nz) : ∀ (i : Nat) (x : Nz), xs[i]? = some x → ∀ j, j < 5 → (flatNs xs)[i * 5 + j]? = (flatN x)[j]? := by
  induction xs with
  | nil => intro i x h; simp at h
  | cons y r ih =>
    intro i x h j hj
    rw [show y :: r = [y] ++ r from rfl, flatNs_app, flatNs_one]
    match i with
    | 0 =>
      simp at h; subst h
      rw [List.getElem?_append_left (by simp; omega)]
      simp
    | i + 1 =>
      rw [List.getElem?_append_right (by simp; omega)]
      have := ih i x (by simpa using h) j hj
      rw [← this]
      congr 1
      simp; omega
theorem cells_nd {W : World} {b : Nat} {z : Nz} (h : W.heap[b]? = some (bxNd z)) : ∀ (j : Nat) (u : Value), (flatN z)[j]? = some u → W.cell? ((⟨b, 0, none⟩ : Addr).add j) = some u := by
  intro j u hu
  rw [WideShapes.add_plain, Lib.cell_of_heap h]
  match j, hu with
  | 0, hu => simpa using hu
  | 1, hu => simpa using hu
  | 2, hu => simpa using hu
  | 3, hu => simpa using hu
  | 4, hu => simpa using hu
  | j + 5, hu => simp at hu
theorem oneCell_nd (z : Nz) : ∀ u ∈ flatN z, u.oneCell' = true := by
  intro u hu
  simp only [flatN, List.mem_cons, List.not_mem_nil, or_false] at hu
  rcases hu with rfl | rfl | rfl | rfl | rfl <;> rfl
/-- Nodes' row and their terms', the call's own. -/
structure OwnN (w : World) (B : Nat) (v : Value) (zs : List Nz) : Prop where
  row : w.ownsRow B 72 5 v zs.length (flatNs zs)
  all : ∀ z ∈ zs, z.Own w B v
theorem OwnN.nil (w : World) (B : Nat) : OwnN w B (.slice none 0 0) [] := ⟨World.ownsRow_nil _ _ _ _, fun z h => by cases h⟩
theorem OwnN.on {w w' : World} {B : Nat} {v : Value} {zs : List Nz} (h : OwnN w B v zs) (hb : Below w.heap.size w w') : OwnN w' B v zs := ⟨own_on h.row hb, fun c hc => (h.all c hc).on hb⟩
theorem OwnN.turn {w w' : World} {b B : Nat} {v : Value} {zs : List Nz} (h : OwnN w B v zs) (ht : Turns b w w') (hb : b < B) : OwnN w' B v zs := ⟨own_turn h.row ht hb, fun c hc => (h.all c hc).turn ht hb⟩
theorem OwnN.mono {w : World} {B B' : Nat} {v : Value} {zs : List Nz} (h : OwnN w B v zs) (hB : B' ≤ B) : OwnN w B' v zs := ⟨own_mono h.row hB, fun c hc => ⟨own_mono (h.all c hc).t hB, (h.all c hc).ta⟩⟩
theorem OwnN.lies {w : World} {B cp : Nat} {q : Option Addr} {n : Nat} {zs : List Nz} (h : OwnN w B (.slice q n cp) zs) : LiesN w q n cp zs := by
  rcases h.row.2 with ⟨hv, h0⟩ | ⟨g, cap, cur, hv, _, hg, hc, _, _, ht⟩
  · simp only [Value.slice.injEq] at hv
    exact ⟨Or.inl (List.eq_nil_of_length_eq_zero h0), by omega, by omega, fun _ => hv.2.2, by omega, fun c hc => (h.all c hc).lies⟩
  · simp only [Value.slice.injEq] at hv
    obtain ⟨rfl, hn, rfl⟩ := hv
    refine ⟨Or.inr ⟨g, 0, rfl, (Array.getElem?_eq_some_iff.1 hg).1, fun i z hz => ?_⟩, by omega, by omega, (fun h => by cases h), by omega, fun c hc => (h.all c hc).lies⟩
    have hi : i < zs.length := (List.getElem?_eq_some_iff.1 hz).1
    have key : ∀ j (u : Value), j < 5 → (flatN z)[j]? = some u → w.cell? ⟨g, 0 + i * 5 + j, none⟩ = some u := by
      intro j u hj hu
      rw [← flatNs_get zs i z hz j hj, ← ht, List.getElem?_take_of_lt (by omega), Array.getElem?_toList] at hu
      rw [Lib.cell_of_heap hg, Nat.zero_add]
      exact hu
    exact ⟨key 0 _ (by omega) rfl, key 1 _ (by omega) rfl, key 2 _ (by omega) rfl, key 3 _ (by omega) rfl, key 4 _ (by omega) rfl⟩
/-- One more of the call's own, beside the others. -/
theorem OwnN.add {wr w1 w2 : World} {B : Nat} {v v' : Value} {zs : List Nz} {y : Nz} {u : Value} (HE : OwnN w1 B v zs) (hv : ∀ m, v.ownBlock = some m → m < wr.heap.size) (hB : B ≤ wr.heap.size) (ho : y.Own w1 wr.heap.size u)
    (hr : w2.ownsRow B 72 5 v' (zs.length + 1) (flatNs (zs ++ [y]))) (hg : w1.grownBy w2 v.ownBlock) (h5 : v'.ownBlock = v.ownBlock ∨ v'.ownBlock = some w1.heap.size) : OwnN w2 B v' (zs ++ [y]) := by
  refine ⟨by rw [List.length_append]; exact hr, fun e he => ?_⟩
  rcases List.mem_append.1 he with h | h
  · exact (HE.all e h).beside hg h5
  · rw [List.mem_singleton.1 h]
    exact Nz.Own.beside (v := v) ⟨own_mono ho.t hB, apart_less (s := wr.heap.size) (fun m hm => (ho.t.lt m hm).1) hv⟩ hg h5
/-- Another row of the call's own, in none of these blocks, turns. -/
theorem OwnN.next {w w' : World} {B : Nat} {v u : Value} {zs : List Nz} (h : OwnN w B v zs) (hg : w.grownBy w' u.ownBlock) (hv : Apart v u) (hz : ∀ z ∈ zs, Apart (.slice z.a z.m z.mc) u) : OwnN w' B v zs :=
  ⟨h.row.kept hg hv.ne, fun z hm => ⟨(h.all z hm).t.kept hg (hz z hm).ne, (h.all z hm).ta⟩⟩
theorem infoN : (Tryz.prog.info? 72).map (fun i => (i.zero, i.size, i.bytes)) = some (some (.agg #[.int .i64 0, .string ⟨#[]⟩, .slice none 0 0, .int .i64 0, .int .i64 0]), 5, 64) := by kernel_rfl
theorem app_nd {w : World} {ops : Array Oper} {rest : List Oper} {o : Oper} {a : Act} {Q : Exit → Act → World → Prop} (hgd : o.guard = none) (s x : Operand)
    (ho : o.op = .call { callee := .builtin .append, args := #[s, x], argTypes := #[43, 43] }) (B : Nat) (v : Value) (zs : List Nz) (z : Nz) (nb : Nat)
    (hs : a.eval s = v) (hx : a.eval x = .slice (some ⟨nb, 0, none⟩) 1 1) (hown : w.ownsRow B 72 5 v zs.length (flatNs zs)) (hnew : Hid (w.heap[nb]? = some (bxNd z))) (hlen : zs.length ≤ 20000) (hB : B ≤ w.heap.size)
    (h : ∀ v' w', w'.ownsRow B 72 5 v' (zs.length + 1) (flatNs (zs ++ [z])) → w.grownBy w' v.ownBlock → (v'.ownBlock = v.ownBlock ∨ v'.ownBlock = some w.heap.size) → wpList Tryz.prog ops Q rest (a.put o.dst v') w') :
    wpList Tryz.prog ops Q (o :: rest) a w := by
  obtain ⟨i0, hi, hz0, hz1, hz2⟩ := info_parts infoN
  refine wpList_append_own_at w hgd s x 43 ho B 72 i0 (.agg #[.int .i64 0, .string ⟨#[]⟩, .slice none 0 0, .int .i64 0, .int .i64 0]) 5 64 Tryz.underlying43 hi hz0 hz1 hz2 rfl (by decide) v zs.length (flatNs zs) hs hown ⟨nb, 0, none⟩ 1 1 (flatN z) hx rfl (cells_nd (unhide hnew)) (oneCell_nd z) (by unfold maxLen; omega) (by omega) hB ?_
  intro v' w' h1 h2 _ h4
  refine h v' w' ?_ h2 h4
  rw [flatNs_app, flatNs_one]
  exact h1

/-- Pairs of numbers, as they lie one behind the other. -/
abbrev Qq := Int × Int
abbrev flatQ1 (t : Qq) : List Value := [.int .i64 t.1, .int .i64 t.2]
def flatQ (ts : List Qq) : List Value := ts.flatMap flatQ1
theorem flatQ_app (xs ys : List Qq) : flatQ (xs ++ ys) = flatQ xs ++ flatQ ys := by simp [flatQ]
theorem flatQ_one (t : Qq) : flatQ [t] = flatQ1 t := by simp [flatQ]
theorem flatQ_len (xs : List Qq) : (flatQ xs).length = xs.length * 2 := by
  induction xs with
  | nil => rfl
  | cons x r ih => rw [show x :: r = [x] ++ r from rfl, flatQ_app, List.length_append, ih, flatQ_one]; simp; omega
theorem flatQ_get (xs : List Qq) : ∀ (i : Nat) (x : Qq), xs[i]? = some x → ∀ j, j < 2 → (flatQ xs)[i * 2 + j]? = (flatQ1 x)[j]? := by
  induction xs with
  | nil => intro i x h; simp at h
  | cons y r ih =>
    intro i x h j hj
    rw [show y :: r = [y] ++ r from rfl, flatQ_app, flatQ_one]
    match i with
    | 0 =>
      simp at h; subst h
      rw [List.getElem?_append_left (by simp; omega)]
      simp
    | i + 1 =>
      rw [List.getElem?_append_right (by simp; omega)]
      have := ih i x (by simpa using h) j hj
      rw [← this]
      congr 1
      simp; omega
/-- A row of pairs lies at a. -/
def RowQ (w : World) (a : Option Addr) (ts : List Qq) : Prop :=
  ts = [] ∨ ∃ b o, a = some ⟨b, o, none⟩ ∧ b < w.heap.size ∧ ∀ (i : Nat) (t : Qq), ts[i]? = some t →
    w.cell? ⟨b, o + i * 2, none⟩ = some (.int .i64 t.1) ∧ w.cell? ⟨b, o + i * 2 + 1, none⟩ = some (.int .i64 t.2)
theorem RowQ.on {w w' : World} {a : Option Addr} {ts : List Qq} (h : RowQ w a ts) (hb : Below w.heap.size w w') : RowQ w' a ts := by
  rcases h with h | ⟨b, o, ha, hlt, hc⟩
  · exact Or.inl h
  · refine Or.inr ⟨b, o, ha, by have := hb.size; omega, fun i v hv => ?_⟩
    obtain ⟨h0, h1⟩ := hc i v hv
    exact ⟨cell_on hb h0, cell_on hb h1⟩
theorem RowQ.up {w : World} {a : Option Addr} {ts : List Qq} {i : Nat} (h : RowQ w a ts) (hi : i < ts.length) : ∃ b o, a = some ⟨b, o, none⟩ ∧ b < w.heap.size ∧ w.cell? ⟨b, o + i * 2, none⟩ = some (.int .i64 ts[i].1) ∧ w.cell? ⟨b, o + i * 2 + 1, none⟩ = some (.int .i64 ts[i].2) := by
  rcases h with h | ⟨b, o, ha, hlt, hc⟩
  · subst h; simp at hi
  · exact ⟨b, o, ha, hlt, hc i ts[i] (by simp [hi])⟩
structure LiesQ (w : World) (a : Option Addr) (n cap : Nat) (ts : List Qq) : Prop where
  row : RowQ w a ts
  le : n ≤ ts.length
  ge : ts.length ≤ n
  nil : a = none → cap = 0
  cap : n ≤ cap
theorem LiesQ.on {w w' : World} {a : Option Addr} {n cap : Nat} {ts : List Qq} (h : LiesQ w a n cap ts) (hb : Below w.heap.size w w') : LiesQ w' a n cap ts := ⟨h.row.on hb, h.le, h.ge, h.nil, h.cap⟩
theorem liesQ_own {w : World} {B n cp : Nat} {T : TypeId} {q : Option Addr} {ts : List Qq} (h : w.ownsRow B T 2 (.slice q n cp) ts.length (flatQ ts)) : LiesQ w q n cp ts := by
  rcases h.2 with ⟨hv, h0⟩ | ⟨g, cap, cur, hv, _, hg, hc, _, _, ht⟩
  · simp only [Value.slice.injEq] at hv
    exact ⟨Or.inl (List.eq_nil_of_length_eq_zero h0), by omega, by omega, fun _ => hv.2.2, by omega⟩
  · simp only [Value.slice.injEq] at hv
    obtain ⟨rfl, hn, rfl⟩ := hv
    refine ⟨Or.inr ⟨g, 0, rfl, (Array.getElem?_eq_some_iff.1 hg).1, fun i z hz => ?_⟩, by omega, by omega, (fun h => by cases h), by omega⟩
    have hi : i < ts.length := (List.getElem?_eq_some_iff.1 hz).1
    have key : ∀ j (u : Value), j < 2 → (flatQ1 z)[j]? = some u → w.cell? ⟨g, 0 + i * 2 + j, none⟩ = some u := by
      intro j u hj hu
      rw [← flatQ_get ts i z hz j hj, ← ht, List.getElem?_take_of_lt (by omega), Array.getElem?_toList] at hu
      rw [Lib.cell_of_heap hg, Nat.zero_add]
      exact hu
    exact ⟨key 0 _ (by omega) rfl, key 1 _ (by omega) rfl⟩
theorem cells_q {W : World} {b : Nat} {T : TypeId} {t : Qq} (h : W.heap[b]? = some (.cells #[.int .i64 t.1, .int .i64 t.2] T (0, 0))) : ∀ (j : Nat) (u : Value), (flatQ1 t)[j]? = some u → W.cell? ((⟨b, 0, none⟩ : Addr).add j) = some u := by
  intro j u hu
  rw [WideShapes.add_plain, Lib.cell_of_heap h]
  match j, hu with
  | 0, hu => simpa using hu
  | 1, hu => simpa using hu
  | j + 2, hu => simp at hu
theorem oneCell_q (t : Qq) : ∀ u ∈ flatQ1 t, u.oneCell' = true := by
  intro u hu
  simp only [flatQ1, List.mem_cons, List.not_mem_nil, or_false] at hu
  rcases hu with rfl | rfl <;> rfl
theorem infoTr : (Tryz.prog.info? 129).map (fun i => (i.zero, i.size, i.bytes)) = some (some (.agg #[.int .i64 0, .int .i64 0]), 2, 16) := by kernel_rfl
theorem infoOpn : (Tryz.prog.info? 216).map (fun i => (i.zero, i.size, i.bytes)) = some (some (.agg #[.int .i64 0, .int .i64 0]), 2, 16) := by kernel_rfl
theorem app_tr {w : World} {ops : Array Oper} {rest : List Oper} {o : Oper} {a : Act} {Q : Exit → Act → World → Prop} (hgd : o.guard = none) (s x : Operand)
    (ho : o.op = .call { callee := .builtin .append, args := #[s, x], argTypes := #[125, 125] }) (B : Nat) (v : Value) (ts : List Qq) (t : Qq) (nb : Nat)
    (hs : a.eval s = v) (hx : a.eval x = .slice (some ⟨nb, 0, none⟩) 1 1) (hown : w.ownsRow B 129 2 v ts.length (flatQ ts)) (hnew : Hid (w.heap[nb]? = some (.cells #[.int .i64 t.1, .int .i64 t.2] 129 (0, 0)))) (hlen : ts.length ≤ 20000) (hB : B ≤ w.heap.size)
    (h : ∀ v' w', w'.ownsRow B 129 2 v' (ts.length + 1) (flatQ (ts ++ [t])) → w.grownBy w' v.ownBlock → (v'.ownBlock = v.ownBlock ∨ v'.ownBlock = some w.heap.size) → wpList Tryz.prog ops Q rest (a.put o.dst v') w') :
    wpList Tryz.prog ops Q (o :: rest) a w := by
  obtain ⟨i0, hi, hz0, hz1, hz2⟩ := info_parts infoTr
  refine wpList_append_own_at w hgd s x 125 ho B 129 i0 (.agg #[.int .i64 0, .int .i64 0]) 2 16 Tryz.underlying125 hi hz0 hz1 hz2 rfl (by decide) v ts.length (flatQ ts) hs hown ⟨nb, 0, none⟩ 1 1 (flatQ1 t) hx rfl (cells_q (unhide hnew)) (oneCell_q t) (by unfold maxLen; omega) (by omega) hB ?_
  intro v' w' h1 h2 _ h4
  refine h v' w' ?_ h2 h4
  rw [flatQ_app, flatQ_one]
  exact h1
theorem app_op' {w : World} {ops : Array Oper} {rest : List Oper} {o : Oper} {a : Act} {Q : Exit → Act → World → Prop} (hgd : o.guard = none) (s x : Operand)
    (ho : o.op = .call { callee := .builtin .append, args := #[s, x], argTypes := #[113, 113] }) (B : Nat) (v : Value) (ts : List Qq) (t : Qq) (nb : Nat)
    (hs : a.eval s = v) (hx : a.eval x = .slice (some ⟨nb, 0, none⟩) 1 1) (hown : w.ownsRow B 216 2 v ts.length (flatQ ts)) (hnew : Hid (w.heap[nb]? = some (.cells #[.int .i64 t.1, .int .i64 t.2] 216 (0, 0)))) (hlen : ts.length ≤ 20000) (hB : B ≤ w.heap.size)
    (h : ∀ v' w', w'.ownsRow B 216 2 v' (ts.length + 1) (flatQ (ts ++ [t])) → w.grownBy w' v.ownBlock → (v'.ownBlock = v.ownBlock ∨ v'.ownBlock = some w.heap.size) → wpList Tryz.prog ops Q rest (a.put o.dst v') w') :
    wpList Tryz.prog ops Q (o :: rest) a w := by
  obtain ⟨i0, hi, hz0, hz1, hz2⟩ := info_parts infoOpn
  refine wpList_append_own_at w hgd s x 113 ho B 216 i0 (.agg #[.int .i64 0, .int .i64 0]) 2 16 Tryz.underlying113 hi hz0 hz1 hz2 rfl (by decide) v ts.length (flatQ ts) hs hown ⟨nb, 0, none⟩ 1 1 (flatQ1 t) hx rfl (cells_q (unhide hnew)) (oneCell_q t) (by unfold maxLen; omega) (by omega) hB ?_
  intro v' w' h1 h2 _ h4
  refine h v' w' ?_ h2 h4
  rw [flatQ_app, flatQ_one]
  exact h1
end Go.Proofs.YtcjnhhbcleljmaaGreatDoor.Sb
namespace Go.Proofs.YtcjnhhbcleljmaaGreatDoor.Sb
open Go.RowKit
open V

/-- The words lie where the program's list of them does. -/
def wordT (k : Nat) : ByteArray := if k ≤ 1 then ⟨#[]⟩ else bs (wordN k)
def Wd (w : World) : Prop := ∀ k : Nat, k < 9 → w.cell? ⟨0, k, none⟩ = some (.string (wordT k))
theorem Wd.on {w w' : World} (h : Wd w) (hb : Below w.heap.size w w') : Wd w' := fun k hk => cell_on hb (h k hk)
set_option maxHeartbeats 2000000 in
theorem fatomText_any (n : ByteArray) (a : Option Addr) (len cap : Nat) (ts : List Bb) (s : ByteArray) (w : World) (he : Env w) (hA : Lies w a len cap ts) (H : Hid (V.rightA (n.data.toList, ts) = true)) (HS : Hid (bs (textA (n.data.toList, ts)) = s)) :
    Calls Tryz.prog 74 #[.agg #[.string n, .slice a len cap]] w fun e w' => e = .returned (.string s) ∧ Below w.heap.size w w' := by
  have hb0 : Below w.heap.size w (w.alloc (bxA n a len cap)) := (Below.refl _ _).alloc (Nat.le_refl _) _
  have hnw := heap_alloc_new w (bxA n a len cap)
  have F := hide (text_right n a len cap ts s (w.alloc (bxA n a len cap)) (he.on hb0) (hA.on hb0) H HS)
  clear hA H HS he
  have c0 : (w.alloc (bxA n a len cap)).cell? ⟨w.heap.size, 0, none⟩ = some (.string n) := by rw [Lib.cell_of_heap hnw]; rfl
  have c1 : (w.alloc (bxA n a len cap)).cell? ⟨w.heap.size, 1, none⟩ = some (.slice a len cap) := by rw [Lib.cell_of_heap hnw]; rfl
  clear hnw
  go_enter Tryz.func74, Tryz.ntmps74
  go_wp2_with fail
  refine (unhide F).mono ?_
  rintro e w1 ⟨rfl, hb1⟩
  clear F c0 c1
  go_wp2_with fail
  go_ret
  exact ⟨rfl, bt hb0 hb1⟩
theorem bounded_right (s : ByteArray) (w : World) (h : s.size ≤ 20000) :
    Calls Tryz.prog 71 #[.string s] w fun e w' => e = .returned (.tuple #[.string s, .int .i64 0]) ∧ w' = w := by
  have d : decide (20000 < (s.size : Int)) = false := decide_eq_false (by omega)
  have d2 : ¬ 20000 < s.size := by omega
  clear h
  go_enter Tryz.func71, Tryz.ntmps71
  go_wp2_with fail
  refine bodyPost_ret (v := .tuple #[.string s, .int .i64 0]) (by simp [results, Tryz.results71, go_sem]) rfl ?_
  exact ⟨rfl, rfl⟩
theorem bounded_long (s : ByteArray) (w : World) (h : ¬ s.size ≤ 20000) :
    Calls Tryz.prog 71 #[.string s] w fun e w' => e = .returned (.tuple #[.string ⟨#[]⟩, .int .i64 2]) ∧ w' = w := by
  have d : decide (20000 < (s.size : Int)) = true := decide_eq_true (by omega)
  have d2 : 20000 < s.size := by omega
  clear h
  go_enter Tryz.func71, Tryz.ntmps71
  go_wp2_with fail
  refine bodyPost_ret (v := .tuple #[.string ⟨#[]⟩, .int .i64 2]) (by simp [results, Tryz.results71, go_sem]) rfl ?_
  exact ⟨rfl, rfl⟩
end Go.Proofs.YtcjnhhbcleljmaaGreatDoor.Sb
namespace Go.Proofs.YtcjnhhbcleljmaaGreatDoor.Sb
open Go.RowKit
open V

/-- A pair as it lies. -/
abbrev qT (t : Tr) : Qq := ((t.1 : Int), (t.2 : Int))
/-- What grow tells. -/
def GrowR (ts : List Tr) (n : Np) (f d : Int) (q : Bool) : Prop := (growP ts n = none ∧ q = false) ∨ ∃ t, growP ts n = some t ∧ q = true ∧ f = (t.1 : Int) ∧ d = (t.2 : Int)
def GrowQ (ts : List Tr) (n : Np) (e : Ending) : Prop := ∃ (f d : Int) (q : Bool), e = .returned (.tuple #[.agg #[.int .i64 f, .int .i64 d], .bool q]) ∧ GrowR ts n f d q
theorem GrowQ.of {ts : List Tr} {n : Np} {f d : Int} {q : Bool} (h : GrowR ts n f d q) : GrowQ ts n (.returned (.tuple #[.agg #[.int .i64 f, .int .i64 d], .bool q])) := ⟨f, d, q, rfl, h⟩
theorem acheck_is (n : ByteArray) (a : Option Addr) (len cap : Nat) (ts : List Bb) (q : Bool) (w : World) (hn : n.size ≤ 200) (hv : ∀ t ∈ ts, Lt t) (hA : Lies w a len cap ts) (h20 : len ≤ 20000) (H : Hid (V.rightA (n.data.toList, ts) = q)) :
    Calls Tryz.prog 121 #[.agg #[.string n, .slice a len cap]] w fun e w' => e = .returned (.int .i64 (if q = true then 0 else 1)) ∧ Below w.heap.size w w' := by
  refine (acheck_any n a len cap ts w hn hv hA.row hA.le hA.ge h20).mono ?_
  rintro e w' ⟨rfl, hb⟩
  have h : rightA n ts = q := unhide H
  rw [h]
  cases q <;> exact ⟨rfl, hb⟩
abbrev zq : Obj := .cells #[.int .i64 0, .int .i64 0] 129
/-- What the walk starts with: the node's box, the box of what is told. -/
structure G0 (w W : World) (z : Nz) : Prop where
  bel : Below w.heap.size w W
  bn : BN W w.heap.size z
  q0 : W.cell? ⟨w.heap.size + 1, 0, none⟩ = some (.int .i64 0)
  q1 : W.cell? ⟨w.heap.size + 1, 1, none⟩ = some (.int .i64 0)
  f0 : W.frozen? ⟨w.heap.size + 1, 0, none⟩ = false
  f1 : W.frozen? ⟨w.heap.size + 1, 1, none⟩ = false
  lt : w.heap.size + 1 < W.heap.size
theorem g0_of (w : World) (z : Nz) : G0 w ((w.alloc (bxNd z)).alloc zq) z := by
  have h0 := heap_alloc_new w (bxNd z)
  have h1 := heap_alloc_new (w.alloc (bxNd z)) zq
  rw [show (w.alloc (bxNd z)).heap.size = w.heap.size + 1 by simp] at h1
  exact ⟨bt (below_new w _) (below_new _ _), (bn_of h0).on (below_new _ _), by rw [Lib.cell_of_heap h1]; rfl, by rw [Lib.cell_of_heap h1]; rfl, Lib.frozen_of_heap h1 0, Lib.frozen_of_heap h1 1, by simp⟩
theorem G0.on {w W W' : World} {z : Nz} (G : G0 w W z) (hb : Below W.heap.size W W') : G0 w W' z := by
  have := G.lt
  exact ⟨bt G.bel hb, G.bn.on hb, cell_on hb G.q0, cell_on hb G.q1, (hb.frozen (p := ⟨w.heap.size + 1, 0, none⟩) this).trans G.f0, (hb.frozen (p := ⟨w.heap.size + 1, 1, none⟩) this).trans G.f1, by have := hb.size; omega⟩
/-- What is told is laid. -/
theorem G0.told {w W : World} {z : Nz} (G : G0 w W z) (f d : Int) : Below w.heap.size w ((W.setCell ⟨w.heap.size + 1, 0, none⟩ (.int .i64 f)).setCell ⟨w.heap.size + 1, 1, none⟩ (.int .i64 d)) ∧
    ((W.setCell ⟨w.heap.size + 1, 0, none⟩ (.int .i64 f)).setCell ⟨w.heap.size + 1, 1, none⟩ (.int .i64 d)).cell? ⟨w.heap.size + 1, 0, none⟩ = some (.int .i64 f) ∧ ((W.setCell ⟨w.heap.size + 1, 0, none⟩ (.int .i64 f)).setCell ⟨w.heap.size + 1, 1, none⟩ (.int .i64 d)).cell? ⟨w.heap.size + 1, 1, none⟩ = some (.int .i64 d) := by
  refine ⟨(G.bel.setCell (p := ⟨w.heap.size + 1, 0, none⟩) (by simp) _).setCell (p := ⟨w.heap.size + 1, 1, none⟩) (by simp) _, ?_, ?_⟩
  · rw [World.cell?_setCell_other _ _ _ _ (by simp), World.cell?_setCell_same _ _ _ G.q0]
  · have h : (W.setCell ⟨w.heap.size + 1, 0, none⟩ (.int .i64 f)).cell? ⟨w.heap.size + 1, 1, none⟩ = some (.int .i64 0) := by
      rw [World.cell?_setCell_other _ _ _ _ (by simp)]
      exact G.q1
    rw [World.cell?_setCell_same _ _ _ h]
theorem G0.told2 {w W : World} {z : Nz} (G : G0 w W z) (f d : Int) : Below w.heap.size w ((W.setCell ⟨w.heap.size + 1, 0, none⟩ (.int .i64 f)).setCell ⟨w.heap.size + 1, 1, none⟩ (.int .i64 d)).drew ∧
    ((W.setCell ⟨w.heap.size + 1, 0, none⟩ (.int .i64 f)).setCell ⟨w.heap.size + 1, 1, none⟩ (.int .i64 d)).drew.cell? ⟨w.heap.size + 1, 0, none⟩ = some (.int .i64 f) ∧ ((W.setCell ⟨w.heap.size + 1, 0, none⟩ (.int .i64 f)).setCell ⟨w.heap.size + 1, 1, none⟩ (.int .i64 d)).drew.cell? ⟨w.heap.size + 1, 1, none⟩ = some (.int .i64 d) := by
  obtain ⟨h1, h2, h3⟩ := G.told f d
  exact ⟨h1.drew, h2, h3⟩
set_option maxHeartbeats 4000000 in
set_option maxRecDepth 100000 in
theorem grow_is_no (a : Option Addr) (n c : Nat) (ts : List Tr) (z : Nz) (w : World) (hz : z.In w) (hL : z.Light) (hk : z.k = 1) (_hn : ts.length ≤ 20000) (hl : n ≤ ts.length) (hl2 : ts.length ≤ n) (hr : V.rightA (z.n.data.toList, z.ts) = false) :
    Calls Tryz.prog 134 #[.slice a n c, aggN z] w fun e w' => GrowQ ts z.pl e ∧ Below w.heap.size w w' := by
  have F := fun V (hV : Below w.heap.size w V) => acheck_is z.n z.a z.m z.mc z.ts false V hL.n hL.t (hz.on hV) (by have := hL.m; omega) (hide hr)
  have HR : Hid (GrowR ts z.pl (ts.length : Int) 1 false) := hide (by
    refine Or.inl ⟨?_, rfl⟩; rw [growP_is (show z.pl.1 = 1 from hk), if_neg]; rintro ⟨h, h2, h3⟩; rw [show V.rightA z.pl.2.1 = false from hr] at h; cases h)
  have dk : (z.k == 1) = true := by rw [hk]; rfl
  have hnt : (n : Int) = (ts.length : Int) := by omega
  clear hz hL hk hr
  have GG := g0_of w z
  go_enter Tryz.func134, Tryz.ntmps134
  go_upto_region 1 with fail
  generalize (w.alloc (bxNd z)).alloc zq = W at GG ⊢
  obtain ⟨c0, c1, c2, c3, c4⟩ := GG.bn
  obtain ⟨q0, q1, f0, f1⟩ : _ ∧ _ ∧ _ ∧ _ := ⟨GG.q0, GG.q1, GG.f0, GG.f1⟩
  go_upto_region 3 with fail
  first | (go_region_with (go_at_call 121; refine (F _ (bt GG.bel (Below.refl _ _).drew)).mono ?_; rintro e w1 ⟨rfl, hb1⟩; have G1 := GG.on (bt (Below.refl _ _).drew hb1); obtain ⟨d0, d1, d2, d3, d4⟩ := G1.bn; obtain ⟨p0, p1, g0, g1⟩ : _ ∧ _ ∧ _ ∧ _ := ⟨G1.q0, G1.q1, G1.f0, G1.f1⟩; clear c0 c1 c2 c3 c4 q0 q1 f0 f1)) | fail
  all_goals
    obtain ⟨tb, t0, t1⟩ := G1.told (ts.length : Int) 1
    go_wp2_with fail
    refine bodyPost_ret (v := .tuple #[.agg #[.int .i64 (ts.length : Int), .int .i64 1], .bool false]) (by simp [results, Tryz.results134, go_sem, t0, t1]) rfl ?_
    exact ⟨GrowQ.of (unhide HR), tb⟩
set_option maxHeartbeats 4000000 in
set_option maxRecDepth 100000 in
theorem grow_is_A (a : Option Addr) (n c : Nat) (ts : List Tr) (z : Nz) (w : World) (hz : z.In w) (hL : z.Light) (hk : z.k = 1) (_hn : ts.length ≤ 20000) (hl : n ≤ ts.length) (hl2 : ts.length ≤ n) (hr : V.rightA (z.n.data.toList, z.ts) = true) (hA : z.A ≠ 0) :
    Calls Tryz.prog 134 #[.slice a n c, aggN z] w fun e w' => GrowQ ts z.pl e ∧ Below w.heap.size w w' := by
  have F := fun V (hV : Below w.heap.size w V) => acheck_is z.n z.a z.m z.mc z.ts true V hL.n hL.t (hz.on hV) (by have := hL.m; omega) (hide hr)
  have HR : Hid (GrowR ts z.pl (ts.length : Int) 1 false) := hide (by
    refine Or.inl ⟨?_, rfl⟩; rw [growP_is (show z.pl.1 = 1 from hk), if_neg]; rintro ⟨h, h2, h3⟩; exact hA h2)
  have dk : (z.k == 1) = true := by rw [hk]; rfl
  have hnt : (n : Int) = (ts.length : Int) := by omega
  have dA : (z.A == 0) = false := beq_eq_false_iff_ne.2 hA
  clear hA
  clear hz hL hk hr
  have GG := g0_of w z
  go_enter Tryz.func134, Tryz.ntmps134
  go_upto_region 1 with fail
  generalize (w.alloc (bxNd z)).alloc zq = W at GG ⊢
  obtain ⟨c0, c1, c2, c3, c4⟩ := GG.bn
  obtain ⟨q0, q1, f0, f1⟩ : _ ∧ _ ∧ _ ∧ _ := ⟨GG.q0, GG.q1, GG.f0, GG.f1⟩
  go_upto_region 3 with fail
  first | (go_region_with (go_at_call 121; refine (F _ (bt GG.bel (Below.refl _ _).drew)).mono ?_; rintro e w1 ⟨rfl, hb1⟩; have G1 := GG.on (bt (Below.refl _ _).drew hb1); obtain ⟨d0, d1, d2, d3, d4⟩ := G1.bn; obtain ⟨p0, p1, g0, g1⟩ : _ ∧ _ ∧ _ ∧ _ := ⟨G1.q0, G1.q1, G1.f0, G1.f1⟩; clear c0 c1 c2 c3 c4 q0 q1 f0 f1)) | fail
  all_goals
    obtain ⟨tb, t0, t1⟩ := G1.told (ts.length : Int) 1
    go_wp2_with fail
    refine bodyPost_ret (v := .tuple #[.agg #[.int .i64 (ts.length : Int), .int .i64 1], .bool false]) (by simp [results, Tryz.results134, go_sem, t0, t1]) rfl ?_
    exact ⟨GrowQ.of (unhide HR), tb⟩
set_option maxHeartbeats 4000000 in
set_option maxRecDepth 100000 in
theorem grow_is_B (a : Option Addr) (n c : Nat) (ts : List Tr) (z : Nz) (w : World) (hz : z.In w) (hL : z.Light) (hk : z.k = 1) (_hn : ts.length ≤ 20000) (hl : n ≤ ts.length) (hl2 : ts.length ≤ n) (hr : V.rightA (z.n.data.toList, z.ts) = true) (hA : z.A = 0) (hB : z.B ≠ 0) :
    Calls Tryz.prog 134 #[.slice a n c, aggN z] w fun e w' => GrowQ ts z.pl e ∧ Below w.heap.size w w' := by
  have F := fun V (hV : Below w.heap.size w V) => acheck_is z.n z.a z.m z.mc z.ts true V hL.n hL.t (hz.on hV) (by have := hL.m; omega) (hide hr)
  have HR : Hid (GrowR ts z.pl (ts.length : Int) 1 false) := hide (by
    refine Or.inl ⟨?_, rfl⟩; rw [growP_is (show z.pl.1 = 1 from hk), if_neg]; rintro ⟨h, h2, h3⟩; exact hB h3)
  have dk : (z.k == 1) = true := by rw [hk]; rfl
  have hnt : (n : Int) = (ts.length : Int) := by omega
  have dA : (z.A == 0) = true := by rw [hA]; rfl
  have dB : (z.B == 0) = false := beq_eq_false_iff_ne.2 hB
  clear hA hB
  clear hz hL hk hr
  have GG := g0_of w z
  go_enter Tryz.func134, Tryz.ntmps134
  go_upto_region 1 with fail
  generalize (w.alloc (bxNd z)).alloc zq = W at GG ⊢
  obtain ⟨c0, c1, c2, c3, c4⟩ := GG.bn
  obtain ⟨q0, q1, f0, f1⟩ : _ ∧ _ ∧ _ ∧ _ := ⟨GG.q0, GG.q1, GG.f0, GG.f1⟩
  go_upto_region 3 with fail
  first | (go_region_with (go_at_call 121; refine (F _ (bt GG.bel (Below.refl _ _).drew)).mono ?_; rintro e w1 ⟨rfl, hb1⟩; have G1 := GG.on (bt (Below.refl _ _).drew hb1); obtain ⟨d0, d1, d2, d3, d4⟩ := G1.bn; obtain ⟨p0, p1, g0, g1⟩ : _ ∧ _ ∧ _ ∧ _ := ⟨G1.q0, G1.q1, G1.f0, G1.f1⟩; clear c0 c1 c2 c3 c4 q0 q1 f0 f1)) | fail
  all_goals
    obtain ⟨tb, t0, t1⟩ := G1.told (ts.length : Int) 1
    go_wp2_with fail
    refine bodyPost_ret (v := .tuple #[.agg #[.int .i64 (ts.length : Int), .int .i64 1], .bool false]) (by simp [results, Tryz.results134, go_sem, t0, t1]) rfl ?_
    exact ⟨GrowQ.of (unhide HR), tb⟩
set_option maxHeartbeats 4000000 in
set_option maxRecDepth 100000 in
theorem grow_is_yes (a : Option Addr) (n c : Nat) (ts : List Tr) (z : Nz) (w : World) (hz : z.In w) (hL : z.Light) (hk : z.k = 1) (_hn : ts.length ≤ 20000) (hl : n ≤ ts.length) (hl2 : ts.length ≤ n) (hr : V.rightA (z.n.data.toList, z.ts) = true) (hA : z.A = 0) (hB : z.B = 0) :
    Calls Tryz.prog 134 #[.slice a n c, aggN z] w fun e w' => GrowQ ts z.pl e ∧ Below w.heap.size w w' := by
  have F := fun V (hV : Below w.heap.size w V) => acheck_is z.n z.a z.m z.mc z.ts true V hL.n hL.t (hz.on hV) (by have := hL.m; omega) (hide hr)
  have HR : Hid (GrowR ts z.pl (ts.length : Int) 1 true) := hide (by
    refine Or.inr ⟨(ts.length, 1), ?_, rfl, rfl, rfl⟩; rw [growP_is (show z.pl.1 = 1 from hk), if_pos]; exact ⟨hr, hA, hB⟩)
  have dk : (z.k == 1) = true := by rw [hk]; rfl
  have hnt : (n : Int) = (ts.length : Int) := by omega
  have dA : (z.A == 0) = true := by rw [hA]; rfl
  have dB : (z.B == 0) = true := by rw [hB]; rfl
  clear hA hB
  clear hz hL hk hr
  have GG := g0_of w z
  go_enter Tryz.func134, Tryz.ntmps134
  go_upto_region 1 with fail
  generalize (w.alloc (bxNd z)).alloc zq = W at GG ⊢
  obtain ⟨c0, c1, c2, c3, c4⟩ := GG.bn
  obtain ⟨q0, q1, f0, f1⟩ : _ ∧ _ ∧ _ ∧ _ := ⟨GG.q0, GG.q1, GG.f0, GG.f1⟩
  go_upto_region 3 with fail
  first | (go_region_with (go_at_call 121; refine (F _ (bt GG.bel (Below.refl _ _).drew)).mono ?_; rintro e w1 ⟨rfl, hb1⟩; have G1 := GG.on (bt (Below.refl _ _).drew hb1); obtain ⟨d0, d1, d2, d3, d4⟩ := G1.bn; obtain ⟨p0, p1, g0, g1⟩ : _ ∧ _ ∧ _ ∧ _ := ⟨G1.q0, G1.q1, G1.f0, G1.f1⟩; clear c0 c1 c2 c3 c4 q0 q1 f0 f1)) | fail
  all_goals
    obtain ⟨tb, t0, t1⟩ := G1.told (ts.length : Int) 1
    go_wp2_with fail
    refine bodyPost_ret (v := .tuple #[.agg #[.int .i64 (ts.length : Int), .int .i64 1], .bool true]) (by simp [results, Tryz.results134, go_sem, t0, t1]) rfl ?_
    exact ⟨GrowQ.of (unhide HR), tb⟩
end Go.Proofs.YtcjnhhbcleljmaaGreatDoor.Sb
namespace Go.Proofs.YtcjnhhbcleljmaaGreatDoor.Sb
open Go.RowKit
open V
set_option maxHeartbeats 4000000 in
set_option maxRecDepth 100000 in
theorem grow_empty (a : Option Addr) (n c : Nat) (ts : List Tr) (z : Nz) (w : World) (_hn : ts.length ≤ 20000) (hl : n ≤ ts.length) (hl2 : ts.length ≤ n) (hk : z.k ≠ 1) (h0 : ts = []) :
    Calls Tryz.prog 134 #[.slice a n c, aggN z] w fun e w' => GrowQ ts z.pl e ∧ Below w.heap.size w w' := by
  have HR : Hid (GrowR ts z.pl 0 0 false) := hide (Or.inl ⟨by
    rw [h0]; exact growP_nil hk, rfl⟩)
  have hnt : (n : Int) = (ts.length : Int) := by omega
  have dk : (z.k == 1) = false := by simp [hk]
  have h00 : (((ts.length : Nat) : Int) == 0) = true := by rw [h0]; rfl
  have GG := g0_of w z
  go_enter Tryz.func134, Tryz.ntmps134
  go_upto_region 1 with fail
  generalize (w.alloc (bxNd z)).alloc zq = W at GG ⊢
  obtain ⟨c0, c1, c2, c3, c4⟩ := GG.bn
  obtain ⟨q0, q1, f0, f1⟩ : _ ∧ _ ∧ _ ∧ _ := ⟨GG.q0, GG.q1, GG.f0, GG.f1⟩
  obtain ⟨tb, t0, t1⟩ := GG.told 0 0
  go_wp2_with fail
  first
  | (refine bodyPost_ret (v := .tuple #[.agg #[.int .i64 0, .int .i64 0], .bool false]) (by simp [results, Tryz.results134, go_sem, t0, t1]) rfl ?_
     exact ⟨GrowQ.of (unhide HR), tb⟩)
  | (refine bodyPost_ret (v := .tuple #[.agg #[.int .i64 0, .int .i64 0], .bool false]) (by simp [results, Tryz.results134, go_sem, q0, q1]) rfl ?_
     exact ⟨GrowQ.of (unhide HR), GG.bel⟩)
set_option maxHeartbeats 4000000 in
set_option maxRecDepth 100000 in
theorem grow_name (a : Option Addr) (n c : Nat) (ts : List Tr) (z : Nz) (w : World) (_hn : ts.length ≤ 20000) (hl : n ≤ ts.length) (hl2 : ts.length ≤ n) (hk : z.k ≠ 1) (h0 : 0 < ts.length) (hs : z.n.size ≠ 0) :
    Calls Tryz.prog 134 #[.slice a n c, aggN z] w fun e w' => GrowQ ts z.pl e ∧ Below w.heap.size w w' := by
  have HR : Hid (GrowR ts z.pl 0 0 false) := hide (Or.inl ⟨by
    refine growP_bare hk (fun h => hs ?_); have h2 : z.n.data.toList.length = 0 := congrArg (fun a : At => a.1.length) h; simpa using h2, rfl⟩)
  have hnt : (n : Int) = (ts.length : Int) := by omega
  have dk : (z.k == 1) = false := by simp [hk]
  have h00 : (((ts.length : Nat) : Int) == 0) = false := beq_eq_false_iff_ne.2 (by omega)
  have e1 := emp_f hs
  have GG := g0_of w z
  go_enter Tryz.func134, Tryz.ntmps134
  go_upto_region 1 with fail
  generalize (w.alloc (bxNd z)).alloc zq = W at GG ⊢
  obtain ⟨c0, c1, c2, c3, c4⟩ := GG.bn
  obtain ⟨q0, q1, f0, f1⟩ : _ ∧ _ ∧ _ ∧ _ := ⟨GG.q0, GG.q1, GG.f0, GG.f1⟩
  obtain ⟨tb, t0, t1⟩ := GG.told 0 0
  go_wp2_with fail
  first
  | (refine bodyPost_ret (v := .tuple #[.agg #[.int .i64 0, .int .i64 0], .bool false]) (by simp [results, Tryz.results134, go_sem, t0, t1]) rfl ?_
     exact ⟨GrowQ.of (unhide HR), tb⟩)
  | (refine bodyPost_ret (v := .tuple #[.agg #[.int .i64 0, .int .i64 0], .bool false]) (by simp [results, Tryz.results134, go_sem, q0, q1]) rfl ?_
     exact ⟨GrowQ.of (unhide HR), GG.bel⟩)
set_option maxHeartbeats 4000000 in
set_option maxRecDepth 100000 in
theorem grow_args (a : Option Addr) (n c : Nat) (ts : List Tr) (z : Nz) (w : World) (_hn : ts.length ≤ 20000) (hl : n ≤ ts.length) (hl2 : ts.length ≤ n) (hk : z.k ≠ 1) (h0 : 0 < ts.length) (hs : z.n.size = 0) (hm : 0 < z.m) (hml : z.m = z.ts.length) :
    Calls Tryz.prog 134 #[.slice a n c, aggN z] w fun e w' => GrowQ ts z.pl e ∧ Below w.heap.size w w' := by
  have HR : Hid (GrowR ts z.pl 0 0 false) := hide (Or.inl ⟨by
    refine growP_bare hk (fun h => ?_); have h2 : z.ts.length = 0 := congrArg (fun a : At => a.2.length) h; omega, rfl⟩)
  have hnt : (n : Int) = (ts.length : Int) := by omega
  have dk : (z.k == 1) = false := by simp [hk]
  have h00 : (((ts.length : Nat) : Int) == 0) = false := beq_eq_false_iff_ne.2 (by omega)
  have e1 := emp_t hs
  have e2 : 0 < z.m := hm
  clear hml
  have GG := g0_of w z
  go_enter Tryz.func134, Tryz.ntmps134
  go_upto_region 1 with fail
  generalize (w.alloc (bxNd z)).alloc zq = W at GG ⊢
  obtain ⟨c0, c1, c2, c3, c4⟩ := GG.bn
  obtain ⟨q0, q1, f0, f1⟩ : _ ∧ _ ∧ _ ∧ _ := ⟨GG.q0, GG.q1, GG.f0, GG.f1⟩
  obtain ⟨tb, t0, t1⟩ := GG.told 0 0
  go_wp2_with fail
  first
  | (refine bodyPost_ret (v := .tuple #[.agg #[.int .i64 0, .int .i64 0], .bool false]) (by simp [results, Tryz.results134, go_sem, t0, t1]) rfl ?_
     exact ⟨GrowQ.of (unhide HR), tb⟩)
  | (refine bodyPost_ret (v := .tuple #[.agg #[.int .i64 0, .int .i64 0], .bool false]) (by simp [results, Tryz.results134, go_sem, q0, q1]) rfl ?_
     exact ⟨GrowQ.of (unhide HR), GG.bel⟩)
set_option maxHeartbeats 4000000 in
set_option maxRecDepth 100000 in
theorem grow_2y (a : Option Addr) (n c : Nat) (ts : List Tr) (z : Nz) (w : World) (hn : ts.length ≤ 20000) (hl : n ≤ ts.length) (hl2 : ts.length ≤ n) (hk : z.k = 2) (u : Tr) (hu : ts.getLast? = some u) (hbare : z.pl.2.1 = noA) (hz0 : z.n.size = 0 ∧ z.m = 0) (hrow : RowQ w a (ts.map qT)) (hub : u.2 ≤ 20000) (hA : z.A = (ts.length : Int) - 1) (hB : z.B = 0) :
    Calls Tryz.prog 134 #[.slice a n c, aggN z] w fun e w' => GrowQ ts z.pl e ∧ Below w.heap.size w w' := by
  have HR : Hid (GrowR ts z.pl (u.1 : Int) ((u.2 : Int) + 1) true) := hide (by
    refine Or.inr ⟨(u.1, u.2 + 1), ?_, rfl, rfl, by simp⟩; rw [growP_one (t := u) (show oneK z.pl.1 = true by rw [show z.pl.1 = z.k from rfl, hk]; decide) hu hbare, if_pos ⟨hA, hB⟩])
  have hnt : (n : Int) = (ts.length : Int) := by omega
  have dA : (z.A == (ts.length : Int) - 1) = true := by simp [hA]
  have dB : (z.B == 0) = true := by simp [hB]
  have dk1 : (z.k == 1) = false := by rw [hk]; rfl
  have dk2 : (z.k == 2) = true := by rw [hk]; rfl
  have dk3 : (z.k == 3) = false := by rw [hk]; rfl
  have dk4 : (z.k == 4) = false := by rw [hk]; rfl
  have dk5 : (z.k == 5) = false := by rw [hk]; rfl
  have dk6 : (z.k == 6) = false := by rw [hk]; rfl
  have dk7 : (z.k == 7) = false := by rw [hk]; rfl
  have dk8 : (z.k == 8) = false := by rw [hk]; rfl
  have hpos : 0 < ts.length := by
    cases ts with
    | nil => cases hu
    | cons t r => simp
  have hnz : ((ts.length : Int) == 0) = false := beq_eq_false_iff_ne.2 (by omega)
  have hzn : z.n.size = 0 ∧ z.m = 0 := hz0
  have e1 := emp_t hzn.1
  have e2 : decide ((0 : Int) < (z.m : Int)) = false := by simp; omega
  have e2' : ¬ 0 < z.m := by omega
  have hai : ts[ts.length - 1]? = some u := by rw [← List.getLast?_eq_getElem?]; exact hu
  have hlt : ts.length - 1 < (ts.map qT).length := by rw [List.length_map]; omega
  obtain ⟨bq, oq, ha, hbl, x0, x1⟩ := hrow.up hlt
  have hgu : (ts.map qT)[ts.length - 1] = qT u := by
    rw [List.getElem_map]
    have := List.getElem?_eq_some_iff.1 hai
    rw [this.2]
  rw [hgu] at x0 x1
  subst ha
  have i0 : (0 : Int) ≤ (ts.length : Int) - 1 := by omega
  have i1 : (ts.length : Int) - 1 < (ts.length : Int) := by omega
  have hix : ((ts.length : Int) - 1).toNat = ts.length - 1 := by omega
  clear hk hu hbare hz0 hzn hai hlt hgu hrow hA hB
  have GG := g0_of w z
  go_enter Tryz.func134, Tryz.ntmps134
  go_upto_region 1 with fail
  generalize (w.alloc (bxNd z)).alloc zq = W at GG x0 x1 ⊢
  obtain ⟨c0, c1, c2, c3, c4⟩ := GG.bn
  obtain ⟨q0, q1, f0, f1⟩ : _ ∧ _ ∧ _ ∧ _ := ⟨GG.q0, GG.q1, GG.f0, GG.f1⟩
  have y0 := cell_on GG.bel x0
  have y1 := cell_on GG.bel x1
  have hbx := below_new W (.cells #[.int .i64 (u.1 : Int), .int .i64 (u.2 : Int)] 129)
  have hnw := heap_alloc_new W (.cells #[.int .i64 (u.1 : Int), .int .i64 (u.2 : Int)] 129)
  have G1 := GG.on hbx
  have v0 : (W.alloc (.cells #[.int .i64 (u.1 : Int), .int .i64 (u.2 : Int)] 129)).cell? ⟨W.heap.size, 0, none⟩ = some (.int .i64 (u.1 : Int)) := by rw [Lib.cell_of_heap hnw]; rfl
  have v1 : (W.alloc (.cells #[.int .i64 (u.1 : Int), .int .i64 (u.2 : Int)] 129)).cell? ⟨W.heap.size, 1, none⟩ = some (.int .i64 (u.2 : Int)) := by rw [Lib.cell_of_heap hnw]; rfl
  have hne : W.heap.size ≠ w.heap.size + 1 := by have := GG.lt; omega
  have hne' : w.heap.size + 1 ≠ W.heap.size := by have := GG.lt; omega
  have hne2 : w.heap.size ≠ w.heap.size + 1 := by omega
  clear x0 x1
  go_upto_region 7 with fail
  clear c0 c1 c2 c3 c4 q0 q1 f0 f1 y0 y1 hnw hbx
  generalize W.alloc (.cells #[.int .i64 (u.1 : Int), .int .i64 (u.2 : Int)] 129) = W1 at G1 v0 v1 ⊢
  obtain ⟨c0, c1, c2, c3, c4⟩ := G1.bn
  obtain ⟨q0, q1, f0, f1⟩ : _ ∧ _ ∧ _ ∧ _ := ⟨G1.q0, G1.q1, G1.f0, G1.f1⟩
  obtain ⟨tb, t0, t1⟩ := G1.told2 (u.1 : Int) ((u.2 : Int) + 1)
  go_upto_region 13 with fail
  first | (go_region) | fail
  go_wp2_with fail
  refine bodyPost_ret (v := .tuple #[.agg #[.int .i64 (u.1 : Int), .int .i64 ((u.2 : Int) + 1)], .bool true]) (by simp [results, Tryz.results134, go_sem, t0, t1]) rfl ?_
  exact ⟨GrowQ.of (unhide HR), tb⟩
set_option maxHeartbeats 4000000 in
set_option maxRecDepth 100000 in
theorem grow_2A (a : Option Addr) (n c : Nat) (ts : List Tr) (z : Nz) (w : World) (hn : ts.length ≤ 20000) (hl : n ≤ ts.length) (hl2 : ts.length ≤ n) (hk : z.k = 2) (u : Tr) (hu : ts.getLast? = some u) (hbare : z.pl.2.1 = noA) (hz0 : z.n.size = 0 ∧ z.m = 0) (hrow : RowQ w a (ts.map qT)) (hub : u.2 ≤ 20000) (hA : z.A ≠ (ts.length : Int) - 1) :
    Calls Tryz.prog 134 #[.slice a n c, aggN z] w fun e w' => GrowQ ts z.pl e ∧ Below w.heap.size w w' := by
  have HR : Hid (GrowR ts z.pl (u.1 : Int) ((u.2 : Int) + 1) false) := hide (by
    refine Or.inl ⟨?_, rfl⟩; rw [growP_one (t := u) (show oneK z.pl.1 = true by rw [show z.pl.1 = z.k from rfl, hk]; decide) hu hbare, if_neg (fun h => hA h.1)])
  have hnt : (n : Int) = (ts.length : Int) := by omega
  have dA : (z.A == (ts.length : Int) - 1) = false := by simp [hA]
  have dk1 : (z.k == 1) = false := by rw [hk]; rfl
  have dk2 : (z.k == 2) = true := by rw [hk]; rfl
  have dk3 : (z.k == 3) = false := by rw [hk]; rfl
  have dk4 : (z.k == 4) = false := by rw [hk]; rfl
  have dk5 : (z.k == 5) = false := by rw [hk]; rfl
  have dk6 : (z.k == 6) = false := by rw [hk]; rfl
  have dk7 : (z.k == 7) = false := by rw [hk]; rfl
  have dk8 : (z.k == 8) = false := by rw [hk]; rfl
  have hpos : 0 < ts.length := by
    cases ts with
    | nil => cases hu
    | cons t r => simp
  have hnz : ((ts.length : Int) == 0) = false := beq_eq_false_iff_ne.2 (by omega)
  have hzn : z.n.size = 0 ∧ z.m = 0 := hz0
  have e1 := emp_t hzn.1
  have e2 : decide ((0 : Int) < (z.m : Int)) = false := by simp; omega
  have e2' : ¬ 0 < z.m := by omega
  have hai : ts[ts.length - 1]? = some u := by rw [← List.getLast?_eq_getElem?]; exact hu
  have hlt : ts.length - 1 < (ts.map qT).length := by rw [List.length_map]; omega
  obtain ⟨bq, oq, ha, hbl, x0, x1⟩ := hrow.up hlt
  have hgu : (ts.map qT)[ts.length - 1] = qT u := by
    rw [List.getElem_map]
    have := List.getElem?_eq_some_iff.1 hai
    rw [this.2]
  rw [hgu] at x0 x1
  subst ha
  have i0 : (0 : Int) ≤ (ts.length : Int) - 1 := by omega
  have i1 : (ts.length : Int) - 1 < (ts.length : Int) := by omega
  have hix : ((ts.length : Int) - 1).toNat = ts.length - 1 := by omega
  clear hk hu hbare hz0 hzn hai hlt hgu hrow hA
  have GG := g0_of w z
  go_enter Tryz.func134, Tryz.ntmps134
  go_upto_region 1 with fail
  generalize (w.alloc (bxNd z)).alloc zq = W at GG x0 x1 ⊢
  obtain ⟨c0, c1, c2, c3, c4⟩ := GG.bn
  obtain ⟨q0, q1, f0, f1⟩ : _ ∧ _ ∧ _ ∧ _ := ⟨GG.q0, GG.q1, GG.f0, GG.f1⟩
  have y0 := cell_on GG.bel x0
  have y1 := cell_on GG.bel x1
  have hbx := below_new W (.cells #[.int .i64 (u.1 : Int), .int .i64 (u.2 : Int)] 129)
  have hnw := heap_alloc_new W (.cells #[.int .i64 (u.1 : Int), .int .i64 (u.2 : Int)] 129)
  have G1 := GG.on hbx
  have v0 : (W.alloc (.cells #[.int .i64 (u.1 : Int), .int .i64 (u.2 : Int)] 129)).cell? ⟨W.heap.size, 0, none⟩ = some (.int .i64 (u.1 : Int)) := by rw [Lib.cell_of_heap hnw]; rfl
  have v1 : (W.alloc (.cells #[.int .i64 (u.1 : Int), .int .i64 (u.2 : Int)] 129)).cell? ⟨W.heap.size, 1, none⟩ = some (.int .i64 (u.2 : Int)) := by rw [Lib.cell_of_heap hnw]; rfl
  have hne : W.heap.size ≠ w.heap.size + 1 := by have := GG.lt; omega
  have hne' : w.heap.size + 1 ≠ W.heap.size := by have := GG.lt; omega
  have hne2 : w.heap.size ≠ w.heap.size + 1 := by omega
  clear x0 x1
  go_upto_region 7 with fail
  clear c0 c1 c2 c3 c4 q0 q1 f0 f1 y0 y1 hnw hbx
  generalize W.alloc (.cells #[.int .i64 (u.1 : Int), .int .i64 (u.2 : Int)] 129) = W1 at G1 v0 v1 ⊢
  obtain ⟨c0, c1, c2, c3, c4⟩ := G1.bn
  obtain ⟨q0, q1, f0, f1⟩ : _ ∧ _ ∧ _ ∧ _ := ⟨G1.q0, G1.q1, G1.f0, G1.f1⟩
  obtain ⟨tb, t0, t1⟩ := G1.told2 (u.1 : Int) ((u.2 : Int) + 1)
  go_upto_region 13 with fail
  first | (go_region) | fail
  go_wp2_with fail
  refine bodyPost_ret (v := .tuple #[.agg #[.int .i64 (u.1 : Int), .int .i64 ((u.2 : Int) + 1)], .bool false]) (by simp [results, Tryz.results134, go_sem, t0, t1]) rfl ?_
  exact ⟨GrowQ.of (unhide HR), tb⟩
set_option maxHeartbeats 4000000 in
set_option maxRecDepth 100000 in
theorem grow_2B (a : Option Addr) (n c : Nat) (ts : List Tr) (z : Nz) (w : World) (hn : ts.length ≤ 20000) (hl : n ≤ ts.length) (hl2 : ts.length ≤ n) (hk : z.k = 2) (u : Tr) (hu : ts.getLast? = some u) (hbare : z.pl.2.1 = noA) (hz0 : z.n.size = 0 ∧ z.m = 0) (hrow : RowQ w a (ts.map qT)) (hub : u.2 ≤ 20000) (hA : z.A = (ts.length : Int) - 1) (hB : z.B ≠ 0) :
    Calls Tryz.prog 134 #[.slice a n c, aggN z] w fun e w' => GrowQ ts z.pl e ∧ Below w.heap.size w w' := by
  have HR : Hid (GrowR ts z.pl (u.1 : Int) ((u.2 : Int) + 1) false) := hide (by
    refine Or.inl ⟨?_, rfl⟩; rw [growP_one (t := u) (show oneK z.pl.1 = true by rw [show z.pl.1 = z.k from rfl, hk]; decide) hu hbare, if_neg (fun h => hB h.2)])
  have hnt : (n : Int) = (ts.length : Int) := by omega
  have dA : (z.A == (ts.length : Int) - 1) = true := by simp [hA]
  have dB : (z.B == 0) = false := by simp [hB]
  have dk1 : (z.k == 1) = false := by rw [hk]; rfl
  have dk2 : (z.k == 2) = true := by rw [hk]; rfl
  have dk3 : (z.k == 3) = false := by rw [hk]; rfl
  have dk4 : (z.k == 4) = false := by rw [hk]; rfl
  have dk5 : (z.k == 5) = false := by rw [hk]; rfl
  have dk6 : (z.k == 6) = false := by rw [hk]; rfl
  have dk7 : (z.k == 7) = false := by rw [hk]; rfl
  have dk8 : (z.k == 8) = false := by rw [hk]; rfl
  have hpos : 0 < ts.length := by
    cases ts with
    | nil => cases hu
    | cons t r => simp
  have hnz : ((ts.length : Int) == 0) = false := beq_eq_false_iff_ne.2 (by omega)
  have hzn : z.n.size = 0 ∧ z.m = 0 := hz0
  have e1 := emp_t hzn.1
  have e2 : decide ((0 : Int) < (z.m : Int)) = false := by simp; omega
  have e2' : ¬ 0 < z.m := by omega
  have hai : ts[ts.length - 1]? = some u := by rw [← List.getLast?_eq_getElem?]; exact hu
  have hlt : ts.length - 1 < (ts.map qT).length := by rw [List.length_map]; omega
  obtain ⟨bq, oq, ha, hbl, x0, x1⟩ := hrow.up hlt
  have hgu : (ts.map qT)[ts.length - 1] = qT u := by
    rw [List.getElem_map]
    have := List.getElem?_eq_some_iff.1 hai
    rw [this.2]
  rw [hgu] at x0 x1
  subst ha
  have i0 : (0 : Int) ≤ (ts.length : Int) - 1 := by omega
  have i1 : (ts.length : Int) - 1 < (ts.length : Int) := by omega
  have hix : ((ts.length : Int) - 1).toNat = ts.length - 1 := by omega
  clear hk hu hbare hz0 hzn hai hlt hgu hrow hA hB
  have GG := g0_of w z
  go_enter Tryz.func134, Tryz.ntmps134
  go_upto_region 1 with fail
  generalize (w.alloc (bxNd z)).alloc zq = W at GG x0 x1 ⊢
  obtain ⟨c0, c1, c2, c3, c4⟩ := GG.bn
  obtain ⟨q0, q1, f0, f1⟩ : _ ∧ _ ∧ _ ∧ _ := ⟨GG.q0, GG.q1, GG.f0, GG.f1⟩
  have y0 := cell_on GG.bel x0
  have y1 := cell_on GG.bel x1
  have hbx := below_new W (.cells #[.int .i64 (u.1 : Int), .int .i64 (u.2 : Int)] 129)
  have hnw := heap_alloc_new W (.cells #[.int .i64 (u.1 : Int), .int .i64 (u.2 : Int)] 129)
  have G1 := GG.on hbx
  have v0 : (W.alloc (.cells #[.int .i64 (u.1 : Int), .int .i64 (u.2 : Int)] 129)).cell? ⟨W.heap.size, 0, none⟩ = some (.int .i64 (u.1 : Int)) := by rw [Lib.cell_of_heap hnw]; rfl
  have v1 : (W.alloc (.cells #[.int .i64 (u.1 : Int), .int .i64 (u.2 : Int)] 129)).cell? ⟨W.heap.size, 1, none⟩ = some (.int .i64 (u.2 : Int)) := by rw [Lib.cell_of_heap hnw]; rfl
  have hne : W.heap.size ≠ w.heap.size + 1 := by have := GG.lt; omega
  have hne' : w.heap.size + 1 ≠ W.heap.size := by have := GG.lt; omega
  have hne2 : w.heap.size ≠ w.heap.size + 1 := by omega
  clear x0 x1
  go_upto_region 7 with fail
  clear c0 c1 c2 c3 c4 q0 q1 f0 f1 y0 y1 hnw hbx
  generalize W.alloc (.cells #[.int .i64 (u.1 : Int), .int .i64 (u.2 : Int)] 129) = W1 at G1 v0 v1 ⊢
  obtain ⟨c0, c1, c2, c3, c4⟩ := G1.bn
  obtain ⟨q0, q1, f0, f1⟩ : _ ∧ _ ∧ _ ∧ _ := ⟨G1.q0, G1.q1, G1.f0, G1.f1⟩
  obtain ⟨tb, t0, t1⟩ := G1.told2 (u.1 : Int) ((u.2 : Int) + 1)
  go_upto_region 13 with fail
  first | (go_region) | fail
  go_wp2_with fail
  refine bodyPost_ret (v := .tuple #[.agg #[.int .i64 (u.1 : Int), .int .i64 ((u.2 : Int) + 1)], .bool false]) (by simp [results, Tryz.results134, go_sem, t0, t1]) rfl ?_
  exact ⟨GrowQ.of (unhide HR), tb⟩
end Go.Proofs.YtcjnhhbcleljmaaGreatDoor.Sb
namespace Go.Proofs.YtcjnhhbcleljmaaGreatDoor.Sb
open Go.RowKit
open V
set_option maxHeartbeats 4000000 in
set_option maxRecDepth 100000 in
theorem grow_5y (a : Option Addr) (n c : Nat) (ts : List Tr) (z : Nz) (w : World) (hn : ts.length ≤ 20000) (hl : n ≤ ts.length) (hl2 : ts.length ≤ n) (hk : z.k = 5) (u : Tr) (hu : ts.getLast? = some u) (hbare : z.pl.2.1 = noA) (hz0 : z.n.size = 0 ∧ z.m = 0) (hrow : RowQ w a (ts.map qT)) (hub : u.2 ≤ 20000) (hA : z.A = (ts.length : Int) - 1) (hB : z.B = 0) :
    Calls Tryz.prog 134 #[.slice a n c, aggN z] w fun e w' => GrowQ ts z.pl e ∧ Below w.heap.size w w' := by
  have HR : Hid (GrowR ts z.pl (u.1 : Int) ((u.2 : Int) + 1) true) := hide (by
    refine Or.inr ⟨(u.1, u.2 + 1), ?_, rfl, rfl, by simp⟩; rw [growP_one (t := u) (show oneK z.pl.1 = true by rw [show z.pl.1 = z.k from rfl, hk]; decide) hu hbare, if_pos ⟨hA, hB⟩])
  have hnt : (n : Int) = (ts.length : Int) := by omega
  have dA : (z.A == (ts.length : Int) - 1) = true := by simp [hA]
  have dB : (z.B == 0) = true := by simp [hB]
  have dk1 : (z.k == 1) = false := by rw [hk]; rfl
  have dk2 : (z.k == 2) = false := by rw [hk]; rfl
  have dk3 : (z.k == 3) = false := by rw [hk]; rfl
  have dk4 : (z.k == 4) = false := by rw [hk]; rfl
  have dk5 : (z.k == 5) = true := by rw [hk]; rfl
  have dk6 : (z.k == 6) = false := by rw [hk]; rfl
  have dk7 : (z.k == 7) = false := by rw [hk]; rfl
  have dk8 : (z.k == 8) = false := by rw [hk]; rfl
  have hpos : 0 < ts.length := by
    cases ts with
    | nil => cases hu
    | cons t r => simp
  have hnz : ((ts.length : Int) == 0) = false := beq_eq_false_iff_ne.2 (by omega)
  have hzn : z.n.size = 0 ∧ z.m = 0 := hz0
  have e1 := emp_t hzn.1
  have e2 : decide ((0 : Int) < (z.m : Int)) = false := by simp; omega
  have e2' : ¬ 0 < z.m := by omega
  have hai : ts[ts.length - 1]? = some u := by rw [← List.getLast?_eq_getElem?]; exact hu
  have hlt : ts.length - 1 < (ts.map qT).length := by rw [List.length_map]; omega
  obtain ⟨bq, oq, ha, hbl, x0, x1⟩ := hrow.up hlt
  have hgu : (ts.map qT)[ts.length - 1] = qT u := by
    rw [List.getElem_map]
    have := List.getElem?_eq_some_iff.1 hai
    rw [this.2]
  rw [hgu] at x0 x1
  subst ha
  have i0 : (0 : Int) ≤ (ts.length : Int) - 1 := by omega
  have i1 : (ts.length : Int) - 1 < (ts.length : Int) := by omega
  have hix : ((ts.length : Int) - 1).toNat = ts.length - 1 := by omega
  clear hk hu hbare hz0 hzn hai hlt hgu hrow hA hB
  have GG := g0_of w z
  go_enter Tryz.func134, Tryz.ntmps134
  go_upto_region 1 with fail
  generalize (w.alloc (bxNd z)).alloc zq = W at GG x0 x1 ⊢
  obtain ⟨c0, c1, c2, c3, c4⟩ := GG.bn
  obtain ⟨q0, q1, f0, f1⟩ : _ ∧ _ ∧ _ ∧ _ := ⟨GG.q0, GG.q1, GG.f0, GG.f1⟩
  have y0 := cell_on GG.bel x0
  have y1 := cell_on GG.bel x1
  have hbx := below_new W (.cells #[.int .i64 (u.1 : Int), .int .i64 (u.2 : Int)] 129)
  have hnw := heap_alloc_new W (.cells #[.int .i64 (u.1 : Int), .int .i64 (u.2 : Int)] 129)
  have G1 := GG.on hbx
  have v0 : (W.alloc (.cells #[.int .i64 (u.1 : Int), .int .i64 (u.2 : Int)] 129)).cell? ⟨W.heap.size, 0, none⟩ = some (.int .i64 (u.1 : Int)) := by rw [Lib.cell_of_heap hnw]; rfl
  have v1 : (W.alloc (.cells #[.int .i64 (u.1 : Int), .int .i64 (u.2 : Int)] 129)).cell? ⟨W.heap.size, 1, none⟩ = some (.int .i64 (u.2 : Int)) := by rw [Lib.cell_of_heap hnw]; rfl
  have hne : W.heap.size ≠ w.heap.size + 1 := by have := GG.lt; omega
  have hne' : w.heap.size + 1 ≠ W.heap.size := by have := GG.lt; omega
  have hne2 : w.heap.size ≠ w.heap.size + 1 := by omega
  clear x0 x1
  go_upto_region 7 with fail
  clear c0 c1 c2 c3 c4 q0 q1 f0 f1 y0 y1 hnw hbx
  generalize W.alloc (.cells #[.int .i64 (u.1 : Int), .int .i64 (u.2 : Int)] 129) = W1 at G1 v0 v1 ⊢
  obtain ⟨c0, c1, c2, c3, c4⟩ := G1.bn
  obtain ⟨q0, q1, f0, f1⟩ : _ ∧ _ ∧ _ ∧ _ := ⟨G1.q0, G1.q1, G1.f0, G1.f1⟩
  obtain ⟨tb, t0, t1⟩ := G1.told2 (u.1 : Int) ((u.2 : Int) + 1)
  go_upto_region 13 with fail
  first | (go_region) | fail
  go_wp2_with fail
  refine bodyPost_ret (v := .tuple #[.agg #[.int .i64 (u.1 : Int), .int .i64 ((u.2 : Int) + 1)], .bool true]) (by simp [results, Tryz.results134, go_sem, t0, t1]) rfl ?_
  exact ⟨GrowQ.of (unhide HR), tb⟩
set_option maxHeartbeats 4000000 in
set_option maxRecDepth 100000 in
theorem grow_5A (a : Option Addr) (n c : Nat) (ts : List Tr) (z : Nz) (w : World) (hn : ts.length ≤ 20000) (hl : n ≤ ts.length) (hl2 : ts.length ≤ n) (hk : z.k = 5) (u : Tr) (hu : ts.getLast? = some u) (hbare : z.pl.2.1 = noA) (hz0 : z.n.size = 0 ∧ z.m = 0) (hrow : RowQ w a (ts.map qT)) (hub : u.2 ≤ 20000) (hA : z.A ≠ (ts.length : Int) - 1) :
    Calls Tryz.prog 134 #[.slice a n c, aggN z] w fun e w' => GrowQ ts z.pl e ∧ Below w.heap.size w w' := by
  have HR : Hid (GrowR ts z.pl (u.1 : Int) ((u.2 : Int) + 1) false) := hide (by
    refine Or.inl ⟨?_, rfl⟩; rw [growP_one (t := u) (show oneK z.pl.1 = true by rw [show z.pl.1 = z.k from rfl, hk]; decide) hu hbare, if_neg (fun h => hA h.1)])
  have hnt : (n : Int) = (ts.length : Int) := by omega
  have dA : (z.A == (ts.length : Int) - 1) = false := by simp [hA]
  have dk1 : (z.k == 1) = false := by rw [hk]; rfl
  have dk2 : (z.k == 2) = false := by rw [hk]; rfl
  have dk3 : (z.k == 3) = false := by rw [hk]; rfl
  have dk4 : (z.k == 4) = false := by rw [hk]; rfl
  have dk5 : (z.k == 5) = true := by rw [hk]; rfl
  have dk6 : (z.k == 6) = false := by rw [hk]; rfl
  have dk7 : (z.k == 7) = false := by rw [hk]; rfl
  have dk8 : (z.k == 8) = false := by rw [hk]; rfl
  have hpos : 0 < ts.length := by
    cases ts with
    | nil => cases hu
    | cons t r => simp
  have hnz : ((ts.length : Int) == 0) = false := beq_eq_false_iff_ne.2 (by omega)
  have hzn : z.n.size = 0 ∧ z.m = 0 := hz0
  have e1 := emp_t hzn.1
  have e2 : decide ((0 : Int) < (z.m : Int)) = false := by simp; omega
  have e2' : ¬ 0 < z.m := by omega
  have hai : ts[ts.length - 1]? = some u := by rw [← List.getLast?_eq_getElem?]; exact hu
  have hlt : ts.length - 1 < (ts.map qT).length := by rw [List.length_map]; omega
  obtain ⟨bq, oq, ha, hbl, x0, x1⟩ := hrow.up hlt
  have hgu : (ts.map qT)[ts.length - 1] = qT u := by
    rw [List.getElem_map]
    have := List.getElem?_eq_some_iff.1 hai
    rw [this.2]
  rw [hgu] at x0 x1
  subst ha
  have i0 : (0 : Int) ≤ (ts.length : Int) - 1 := by omega
  have i1 : (ts.length : Int) - 1 < (ts.length : Int) := by omega
  have hix : ((ts.length : Int) - 1).toNat = ts.length - 1 := by omega
  clear hk hu hbare hz0 hzn hai hlt hgu hrow hA
  have GG := g0_of w z
  go_enter Tryz.func134, Tryz.ntmps134
  go_upto_region 1 with fail
  generalize (w.alloc (bxNd z)).alloc zq = W at GG x0 x1 ⊢
  obtain ⟨c0, c1, c2, c3, c4⟩ := GG.bn
  obtain ⟨q0, q1, f0, f1⟩ : _ ∧ _ ∧ _ ∧ _ := ⟨GG.q0, GG.q1, GG.f0, GG.f1⟩
  have y0 := cell_on GG.bel x0
  have y1 := cell_on GG.bel x1
  have hbx := below_new W (.cells #[.int .i64 (u.1 : Int), .int .i64 (u.2 : Int)] 129)
  have hnw := heap_alloc_new W (.cells #[.int .i64 (u.1 : Int), .int .i64 (u.2 : Int)] 129)
  have G1 := GG.on hbx
  have v0 : (W.alloc (.cells #[.int .i64 (u.1 : Int), .int .i64 (u.2 : Int)] 129)).cell? ⟨W.heap.size, 0, none⟩ = some (.int .i64 (u.1 : Int)) := by rw [Lib.cell_of_heap hnw]; rfl
  have v1 : (W.alloc (.cells #[.int .i64 (u.1 : Int), .int .i64 (u.2 : Int)] 129)).cell? ⟨W.heap.size, 1, none⟩ = some (.int .i64 (u.2 : Int)) := by rw [Lib.cell_of_heap hnw]; rfl
  have hne : W.heap.size ≠ w.heap.size + 1 := by have := GG.lt; omega
  have hne' : w.heap.size + 1 ≠ W.heap.size := by have := GG.lt; omega
  have hne2 : w.heap.size ≠ w.heap.size + 1 := by omega
  clear x0 x1
  go_upto_region 7 with fail
  clear c0 c1 c2 c3 c4 q0 q1 f0 f1 y0 y1 hnw hbx
  generalize W.alloc (.cells #[.int .i64 (u.1 : Int), .int .i64 (u.2 : Int)] 129) = W1 at G1 v0 v1 ⊢
  obtain ⟨c0, c1, c2, c3, c4⟩ := G1.bn
  obtain ⟨q0, q1, f0, f1⟩ : _ ∧ _ ∧ _ ∧ _ := ⟨G1.q0, G1.q1, G1.f0, G1.f1⟩
  obtain ⟨tb, t0, t1⟩ := G1.told2 (u.1 : Int) ((u.2 : Int) + 1)
  go_upto_region 13 with fail
  first | (go_region) | fail
  go_wp2_with fail
  refine bodyPost_ret (v := .tuple #[.agg #[.int .i64 (u.1 : Int), .int .i64 ((u.2 : Int) + 1)], .bool false]) (by simp [results, Tryz.results134, go_sem, t0, t1]) rfl ?_
  exact ⟨GrowQ.of (unhide HR), tb⟩
set_option maxHeartbeats 4000000 in
set_option maxRecDepth 100000 in
theorem grow_5B (a : Option Addr) (n c : Nat) (ts : List Tr) (z : Nz) (w : World) (hn : ts.length ≤ 20000) (hl : n ≤ ts.length) (hl2 : ts.length ≤ n) (hk : z.k = 5) (u : Tr) (hu : ts.getLast? = some u) (hbare : z.pl.2.1 = noA) (hz0 : z.n.size = 0 ∧ z.m = 0) (hrow : RowQ w a (ts.map qT)) (hub : u.2 ≤ 20000) (hA : z.A = (ts.length : Int) - 1) (hB : z.B ≠ 0) :
    Calls Tryz.prog 134 #[.slice a n c, aggN z] w fun e w' => GrowQ ts z.pl e ∧ Below w.heap.size w w' := by
  have HR : Hid (GrowR ts z.pl (u.1 : Int) ((u.2 : Int) + 1) false) := hide (by
    refine Or.inl ⟨?_, rfl⟩; rw [growP_one (t := u) (show oneK z.pl.1 = true by rw [show z.pl.1 = z.k from rfl, hk]; decide) hu hbare, if_neg (fun h => hB h.2)])
  have hnt : (n : Int) = (ts.length : Int) := by omega
  have dA : (z.A == (ts.length : Int) - 1) = true := by simp [hA]
  have dB : (z.B == 0) = false := by simp [hB]
  have dk1 : (z.k == 1) = false := by rw [hk]; rfl
  have dk2 : (z.k == 2) = false := by rw [hk]; rfl
  have dk3 : (z.k == 3) = false := by rw [hk]; rfl
  have dk4 : (z.k == 4) = false := by rw [hk]; rfl
  have dk5 : (z.k == 5) = true := by rw [hk]; rfl
  have dk6 : (z.k == 6) = false := by rw [hk]; rfl
  have dk7 : (z.k == 7) = false := by rw [hk]; rfl
  have dk8 : (z.k == 8) = false := by rw [hk]; rfl
  have hpos : 0 < ts.length := by
    cases ts with
    | nil => cases hu
    | cons t r => simp
  have hnz : ((ts.length : Int) == 0) = false := beq_eq_false_iff_ne.2 (by omega)
  have hzn : z.n.size = 0 ∧ z.m = 0 := hz0
  have e1 := emp_t hzn.1
  have e2 : decide ((0 : Int) < (z.m : Int)) = false := by simp; omega
  have e2' : ¬ 0 < z.m := by omega
  have hai : ts[ts.length - 1]? = some u := by rw [← List.getLast?_eq_getElem?]; exact hu
  have hlt : ts.length - 1 < (ts.map qT).length := by rw [List.length_map]; omega
  obtain ⟨bq, oq, ha, hbl, x0, x1⟩ := hrow.up hlt
  have hgu : (ts.map qT)[ts.length - 1] = qT u := by
    rw [List.getElem_map]
    have := List.getElem?_eq_some_iff.1 hai
    rw [this.2]
  rw [hgu] at x0 x1
  subst ha
  have i0 : (0 : Int) ≤ (ts.length : Int) - 1 := by omega
  have i1 : (ts.length : Int) - 1 < (ts.length : Int) := by omega
  have hix : ((ts.length : Int) - 1).toNat = ts.length - 1 := by omega
  clear hk hu hbare hz0 hzn hai hlt hgu hrow hA hB
  have GG := g0_of w z
  go_enter Tryz.func134, Tryz.ntmps134
  go_upto_region 1 with fail
  generalize (w.alloc (bxNd z)).alloc zq = W at GG x0 x1 ⊢
  obtain ⟨c0, c1, c2, c3, c4⟩ := GG.bn
  obtain ⟨q0, q1, f0, f1⟩ : _ ∧ _ ∧ _ ∧ _ := ⟨GG.q0, GG.q1, GG.f0, GG.f1⟩
  have y0 := cell_on GG.bel x0
  have y1 := cell_on GG.bel x1
  have hbx := below_new W (.cells #[.int .i64 (u.1 : Int), .int .i64 (u.2 : Int)] 129)
  have hnw := heap_alloc_new W (.cells #[.int .i64 (u.1 : Int), .int .i64 (u.2 : Int)] 129)
  have G1 := GG.on hbx
  have v0 : (W.alloc (.cells #[.int .i64 (u.1 : Int), .int .i64 (u.2 : Int)] 129)).cell? ⟨W.heap.size, 0, none⟩ = some (.int .i64 (u.1 : Int)) := by rw [Lib.cell_of_heap hnw]; rfl
  have v1 : (W.alloc (.cells #[.int .i64 (u.1 : Int), .int .i64 (u.2 : Int)] 129)).cell? ⟨W.heap.size, 1, none⟩ = some (.int .i64 (u.2 : Int)) := by rw [Lib.cell_of_heap hnw]; rfl
  have hne : W.heap.size ≠ w.heap.size + 1 := by have := GG.lt; omega
  have hne' : w.heap.size + 1 ≠ W.heap.size := by have := GG.lt; omega
  have hne2 : w.heap.size ≠ w.heap.size + 1 := by omega
  clear x0 x1
  go_upto_region 7 with fail
  clear c0 c1 c2 c3 c4 q0 q1 f0 f1 y0 y1 hnw hbx
  generalize W.alloc (.cells #[.int .i64 (u.1 : Int), .int .i64 (u.2 : Int)] 129) = W1 at G1 v0 v1 ⊢
  obtain ⟨c0, c1, c2, c3, c4⟩ := G1.bn
  obtain ⟨q0, q1, f0, f1⟩ : _ ∧ _ ∧ _ ∧ _ := ⟨G1.q0, G1.q1, G1.f0, G1.f1⟩
  obtain ⟨tb, t0, t1⟩ := G1.told2 (u.1 : Int) ((u.2 : Int) + 1)
  go_upto_region 13 with fail
  first | (go_region) | fail
  go_wp2_with fail
  refine bodyPost_ret (v := .tuple #[.agg #[.int .i64 (u.1 : Int), .int .i64 ((u.2 : Int) + 1)], .bool false]) (by simp [results, Tryz.results134, go_sem, t0, t1]) rfl ?_
  exact ⟨GrowQ.of (unhide HR), tb⟩
set_option maxHeartbeats 4000000 in
set_option maxRecDepth 100000 in
theorem grow_6y (a : Option Addr) (n c : Nat) (ts : List Tr) (z : Nz) (w : World) (hn : ts.length ≤ 20000) (hl : n ≤ ts.length) (hl2 : ts.length ≤ n) (hk : z.k = 6) (u : Tr) (hu : ts.getLast? = some u) (hbare : z.pl.2.1 = noA) (hz0 : z.n.size = 0 ∧ z.m = 0) (hrow : RowQ w a (ts.map qT)) (hub : u.2 ≤ 20000) (hA : z.A = (ts.length : Int) - 1) (hB : z.B = 0) :
    Calls Tryz.prog 134 #[.slice a n c, aggN z] w fun e w' => GrowQ ts z.pl e ∧ Below w.heap.size w w' := by
  have HR : Hid (GrowR ts z.pl (u.1 : Int) ((u.2 : Int) + 1) true) := hide (by
    refine Or.inr ⟨(u.1, u.2 + 1), ?_, rfl, rfl, by simp⟩; rw [growP_one (t := u) (show oneK z.pl.1 = true by rw [show z.pl.1 = z.k from rfl, hk]; decide) hu hbare, if_pos ⟨hA, hB⟩])
  have hnt : (n : Int) = (ts.length : Int) := by omega
  have dA : (z.A == (ts.length : Int) - 1) = true := by simp [hA]
  have dB : (z.B == 0) = true := by simp [hB]
  have dk1 : (z.k == 1) = false := by rw [hk]; rfl
  have dk2 : (z.k == 2) = false := by rw [hk]; rfl
  have dk3 : (z.k == 3) = false := by rw [hk]; rfl
  have dk4 : (z.k == 4) = false := by rw [hk]; rfl
  have dk5 : (z.k == 5) = false := by rw [hk]; rfl
  have dk6 : (z.k == 6) = true := by rw [hk]; rfl
  have dk7 : (z.k == 7) = false := by rw [hk]; rfl
  have dk8 : (z.k == 8) = false := by rw [hk]; rfl
  have hpos : 0 < ts.length := by
    cases ts with
    | nil => cases hu
    | cons t r => simp
  have hnz : ((ts.length : Int) == 0) = false := beq_eq_false_iff_ne.2 (by omega)
  have hzn : z.n.size = 0 ∧ z.m = 0 := hz0
  have e1 := emp_t hzn.1
  have e2 : decide ((0 : Int) < (z.m : Int)) = false := by simp; omega
  have e2' : ¬ 0 < z.m := by omega
  have hai : ts[ts.length - 1]? = some u := by rw [← List.getLast?_eq_getElem?]; exact hu
  have hlt : ts.length - 1 < (ts.map qT).length := by rw [List.length_map]; omega
  obtain ⟨bq, oq, ha, hbl, x0, x1⟩ := hrow.up hlt
  have hgu : (ts.map qT)[ts.length - 1] = qT u := by
    rw [List.getElem_map]
    have := List.getElem?_eq_some_iff.1 hai
    rw [this.2]
  rw [hgu] at x0 x1
  subst ha
  have i0 : (0 : Int) ≤ (ts.length : Int) - 1 := by omega
  have i1 : (ts.length : Int) - 1 < (ts.length : Int) := by omega
  have hix : ((ts.length : Int) - 1).toNat = ts.length - 1 := by omega
  clear hk hu hbare hz0 hzn hai hlt hgu hrow hA hB
  have GG := g0_of w z
  go_enter Tryz.func134, Tryz.ntmps134
  go_upto_region 1 with fail
  generalize (w.alloc (bxNd z)).alloc zq = W at GG x0 x1 ⊢
  obtain ⟨c0, c1, c2, c3, c4⟩ := GG.bn
  obtain ⟨q0, q1, f0, f1⟩ : _ ∧ _ ∧ _ ∧ _ := ⟨GG.q0, GG.q1, GG.f0, GG.f1⟩
  have y0 := cell_on GG.bel x0
  have y1 := cell_on GG.bel x1
  have hbx := below_new W (.cells #[.int .i64 (u.1 : Int), .int .i64 (u.2 : Int)] 129)
  have hnw := heap_alloc_new W (.cells #[.int .i64 (u.1 : Int), .int .i64 (u.2 : Int)] 129)
  have G1 := GG.on hbx
  have v0 : (W.alloc (.cells #[.int .i64 (u.1 : Int), .int .i64 (u.2 : Int)] 129)).cell? ⟨W.heap.size, 0, none⟩ = some (.int .i64 (u.1 : Int)) := by rw [Lib.cell_of_heap hnw]; rfl
  have v1 : (W.alloc (.cells #[.int .i64 (u.1 : Int), .int .i64 (u.2 : Int)] 129)).cell? ⟨W.heap.size, 1, none⟩ = some (.int .i64 (u.2 : Int)) := by rw [Lib.cell_of_heap hnw]; rfl
  have hne : W.heap.size ≠ w.heap.size + 1 := by have := GG.lt; omega
  have hne' : w.heap.size + 1 ≠ W.heap.size := by have := GG.lt; omega
  have hne2 : w.heap.size ≠ w.heap.size + 1 := by omega
  clear x0 x1
  go_upto_region 7 with fail
  clear c0 c1 c2 c3 c4 q0 q1 f0 f1 y0 y1 hnw hbx
  generalize W.alloc (.cells #[.int .i64 (u.1 : Int), .int .i64 (u.2 : Int)] 129) = W1 at G1 v0 v1 ⊢
  obtain ⟨c0, c1, c2, c3, c4⟩ := G1.bn
  obtain ⟨q0, q1, f0, f1⟩ : _ ∧ _ ∧ _ ∧ _ := ⟨G1.q0, G1.q1, G1.f0, G1.f1⟩
  obtain ⟨tb, t0, t1⟩ := G1.told2 (u.1 : Int) ((u.2 : Int) + 1)
  go_upto_region 13 with fail
  first | (go_region) | fail
  go_wp2_with fail
  refine bodyPost_ret (v := .tuple #[.agg #[.int .i64 (u.1 : Int), .int .i64 ((u.2 : Int) + 1)], .bool true]) (by simp [results, Tryz.results134, go_sem, t0, t1]) rfl ?_
  exact ⟨GrowQ.of (unhide HR), tb⟩
set_option maxHeartbeats 4000000 in
set_option maxRecDepth 100000 in
theorem grow_6A (a : Option Addr) (n c : Nat) (ts : List Tr) (z : Nz) (w : World) (hn : ts.length ≤ 20000) (hl : n ≤ ts.length) (hl2 : ts.length ≤ n) (hk : z.k = 6) (u : Tr) (hu : ts.getLast? = some u) (hbare : z.pl.2.1 = noA) (hz0 : z.n.size = 0 ∧ z.m = 0) (hrow : RowQ w a (ts.map qT)) (hub : u.2 ≤ 20000) (hA : z.A ≠ (ts.length : Int) - 1) :
    Calls Tryz.prog 134 #[.slice a n c, aggN z] w fun e w' => GrowQ ts z.pl e ∧ Below w.heap.size w w' := by
  have HR : Hid (GrowR ts z.pl (u.1 : Int) ((u.2 : Int) + 1) false) := hide (by
    refine Or.inl ⟨?_, rfl⟩; rw [growP_one (t := u) (show oneK z.pl.1 = true by rw [show z.pl.1 = z.k from rfl, hk]; decide) hu hbare, if_neg (fun h => hA h.1)])
  have hnt : (n : Int) = (ts.length : Int) := by omega
  have dA : (z.A == (ts.length : Int) - 1) = false := by simp [hA]
  have dk1 : (z.k == 1) = false := by rw [hk]; rfl
  have dk2 : (z.k == 2) = false := by rw [hk]; rfl
  have dk3 : (z.k == 3) = false := by rw [hk]; rfl
  have dk4 : (z.k == 4) = false := by rw [hk]; rfl
  have dk5 : (z.k == 5) = false := by rw [hk]; rfl
  have dk6 : (z.k == 6) = true := by rw [hk]; rfl
  have dk7 : (z.k == 7) = false := by rw [hk]; rfl
  have dk8 : (z.k == 8) = false := by rw [hk]; rfl
  have hpos : 0 < ts.length := by
    cases ts with
    | nil => cases hu
    | cons t r => simp
  have hnz : ((ts.length : Int) == 0) = false := beq_eq_false_iff_ne.2 (by omega)
  have hzn : z.n.size = 0 ∧ z.m = 0 := hz0
  have e1 := emp_t hzn.1
  have e2 : decide ((0 : Int) < (z.m : Int)) = false := by simp; omega
  have e2' : ¬ 0 < z.m := by omega
  have hai : ts[ts.length - 1]? = some u := by rw [← List.getLast?_eq_getElem?]; exact hu
  have hlt : ts.length - 1 < (ts.map qT).length := by rw [List.length_map]; omega
  obtain ⟨bq, oq, ha, hbl, x0, x1⟩ := hrow.up hlt
  have hgu : (ts.map qT)[ts.length - 1] = qT u := by
    rw [List.getElem_map]
    have := List.getElem?_eq_some_iff.1 hai
    rw [this.2]
  rw [hgu] at x0 x1
  subst ha
  have i0 : (0 : Int) ≤ (ts.length : Int) - 1 := by omega
  have i1 : (ts.length : Int) - 1 < (ts.length : Int) := by omega
  have hix : ((ts.length : Int) - 1).toNat = ts.length - 1 := by omega
  clear hk hu hbare hz0 hzn hai hlt hgu hrow hA
  have GG := g0_of w z
  go_enter Tryz.func134, Tryz.ntmps134
  go_upto_region 1 with fail
  generalize (w.alloc (bxNd z)).alloc zq = W at GG x0 x1 ⊢
  obtain ⟨c0, c1, c2, c3, c4⟩ := GG.bn
  obtain ⟨q0, q1, f0, f1⟩ : _ ∧ _ ∧ _ ∧ _ := ⟨GG.q0, GG.q1, GG.f0, GG.f1⟩
  have y0 := cell_on GG.bel x0
  have y1 := cell_on GG.bel x1
  have hbx := below_new W (.cells #[.int .i64 (u.1 : Int), .int .i64 (u.2 : Int)] 129)
  have hnw := heap_alloc_new W (.cells #[.int .i64 (u.1 : Int), .int .i64 (u.2 : Int)] 129)
  have G1 := GG.on hbx
  have v0 : (W.alloc (.cells #[.int .i64 (u.1 : Int), .int .i64 (u.2 : Int)] 129)).cell? ⟨W.heap.size, 0, none⟩ = some (.int .i64 (u.1 : Int)) := by rw [Lib.cell_of_heap hnw]; rfl
  have v1 : (W.alloc (.cells #[.int .i64 (u.1 : Int), .int .i64 (u.2 : Int)] 129)).cell? ⟨W.heap.size, 1, none⟩ = some (.int .i64 (u.2 : Int)) := by rw [Lib.cell_of_heap hnw]; rfl
  have hne : W.heap.size ≠ w.heap.size + 1 := by have := GG.lt; omega
  have hne' : w.heap.size + 1 ≠ W.heap.size := by have := GG.lt; omega
  have hne2 : w.heap.size ≠ w.heap.size + 1 := by omega
  clear x0 x1
  go_upto_region 7 with fail
  clear c0 c1 c2 c3 c4 q0 q1 f0 f1 y0 y1 hnw hbx
  generalize W.alloc (.cells #[.int .i64 (u.1 : Int), .int .i64 (u.2 : Int)] 129) = W1 at G1 v0 v1 ⊢
  obtain ⟨c0, c1, c2, c3, c4⟩ := G1.bn
  obtain ⟨q0, q1, f0, f1⟩ : _ ∧ _ ∧ _ ∧ _ := ⟨G1.q0, G1.q1, G1.f0, G1.f1⟩
  obtain ⟨tb, t0, t1⟩ := G1.told2 (u.1 : Int) ((u.2 : Int) + 1)
  go_upto_region 13 with fail
  first | (go_region) | fail
  go_wp2_with fail
  refine bodyPost_ret (v := .tuple #[.agg #[.int .i64 (u.1 : Int), .int .i64 ((u.2 : Int) + 1)], .bool false]) (by simp [results, Tryz.results134, go_sem, t0, t1]) rfl ?_
  exact ⟨GrowQ.of (unhide HR), tb⟩
set_option maxHeartbeats 4000000 in
set_option maxRecDepth 100000 in
theorem grow_6B (a : Option Addr) (n c : Nat) (ts : List Tr) (z : Nz) (w : World) (hn : ts.length ≤ 20000) (hl : n ≤ ts.length) (hl2 : ts.length ≤ n) (hk : z.k = 6) (u : Tr) (hu : ts.getLast? = some u) (hbare : z.pl.2.1 = noA) (hz0 : z.n.size = 0 ∧ z.m = 0) (hrow : RowQ w a (ts.map qT)) (hub : u.2 ≤ 20000) (hA : z.A = (ts.length : Int) - 1) (hB : z.B ≠ 0) :
    Calls Tryz.prog 134 #[.slice a n c, aggN z] w fun e w' => GrowQ ts z.pl e ∧ Below w.heap.size w w' := by
  have HR : Hid (GrowR ts z.pl (u.1 : Int) ((u.2 : Int) + 1) false) := hide (by
    refine Or.inl ⟨?_, rfl⟩; rw [growP_one (t := u) (show oneK z.pl.1 = true by rw [show z.pl.1 = z.k from rfl, hk]; decide) hu hbare, if_neg (fun h => hB h.2)])
  have hnt : (n : Int) = (ts.length : Int) := by omega
  have dA : (z.A == (ts.length : Int) - 1) = true := by simp [hA]
  have dB : (z.B == 0) = false := by simp [hB]
  have dk1 : (z.k == 1) = false := by rw [hk]; rfl
  have dk2 : (z.k == 2) = false := by rw [hk]; rfl
  have dk3 : (z.k == 3) = false := by rw [hk]; rfl
  have dk4 : (z.k == 4) = false := by rw [hk]; rfl
  have dk5 : (z.k == 5) = false := by rw [hk]; rfl
  have dk6 : (z.k == 6) = true := by rw [hk]; rfl
  have dk7 : (z.k == 7) = false := by rw [hk]; rfl
  have dk8 : (z.k == 8) = false := by rw [hk]; rfl
  have hpos : 0 < ts.length := by
    cases ts with
    | nil => cases hu
    | cons t r => simp
  have hnz : ((ts.length : Int) == 0) = false := beq_eq_false_iff_ne.2 (by omega)
  have hzn : z.n.size = 0 ∧ z.m = 0 := hz0
  have e1 := emp_t hzn.1
  have e2 : decide ((0 : Int) < (z.m : Int)) = false := by simp; omega
  have e2' : ¬ 0 < z.m := by omega
  have hai : ts[ts.length - 1]? = some u := by rw [← List.getLast?_eq_getElem?]; exact hu
  have hlt : ts.length - 1 < (ts.map qT).length := by rw [List.length_map]; omega
  obtain ⟨bq, oq, ha, hbl, x0, x1⟩ := hrow.up hlt
  have hgu : (ts.map qT)[ts.length - 1] = qT u := by
    rw [List.getElem_map]
    have := List.getElem?_eq_some_iff.1 hai
    rw [this.2]
  rw [hgu] at x0 x1
  subst ha
  have i0 : (0 : Int) ≤ (ts.length : Int) - 1 := by omega
  have i1 : (ts.length : Int) - 1 < (ts.length : Int) := by omega
  have hix : ((ts.length : Int) - 1).toNat = ts.length - 1 := by omega
  clear hk hu hbare hz0 hzn hai hlt hgu hrow hA hB
  have GG := g0_of w z
  go_enter Tryz.func134, Tryz.ntmps134
  go_upto_region 1 with fail
  generalize (w.alloc (bxNd z)).alloc zq = W at GG x0 x1 ⊢
  obtain ⟨c0, c1, c2, c3, c4⟩ := GG.bn
  obtain ⟨q0, q1, f0, f1⟩ : _ ∧ _ ∧ _ ∧ _ := ⟨GG.q0, GG.q1, GG.f0, GG.f1⟩
  have y0 := cell_on GG.bel x0
  have y1 := cell_on GG.bel x1
  have hbx := below_new W (.cells #[.int .i64 (u.1 : Int), .int .i64 (u.2 : Int)] 129)
  have hnw := heap_alloc_new W (.cells #[.int .i64 (u.1 : Int), .int .i64 (u.2 : Int)] 129)
  have G1 := GG.on hbx
  have v0 : (W.alloc (.cells #[.int .i64 (u.1 : Int), .int .i64 (u.2 : Int)] 129)).cell? ⟨W.heap.size, 0, none⟩ = some (.int .i64 (u.1 : Int)) := by rw [Lib.cell_of_heap hnw]; rfl
  have v1 : (W.alloc (.cells #[.int .i64 (u.1 : Int), .int .i64 (u.2 : Int)] 129)).cell? ⟨W.heap.size, 1, none⟩ = some (.int .i64 (u.2 : Int)) := by rw [Lib.cell_of_heap hnw]; rfl
  have hne : W.heap.size ≠ w.heap.size + 1 := by have := GG.lt; omega
  have hne' : w.heap.size + 1 ≠ W.heap.size := by have := GG.lt; omega
  have hne2 : w.heap.size ≠ w.heap.size + 1 := by omega
  clear x0 x1
  go_upto_region 7 with fail
  clear c0 c1 c2 c3 c4 q0 q1 f0 f1 y0 y1 hnw hbx
  generalize W.alloc (.cells #[.int .i64 (u.1 : Int), .int .i64 (u.2 : Int)] 129) = W1 at G1 v0 v1 ⊢
  obtain ⟨c0, c1, c2, c3, c4⟩ := G1.bn
  obtain ⟨q0, q1, f0, f1⟩ : _ ∧ _ ∧ _ ∧ _ := ⟨G1.q0, G1.q1, G1.f0, G1.f1⟩
  obtain ⟨tb, t0, t1⟩ := G1.told2 (u.1 : Int) ((u.2 : Int) + 1)
  go_upto_region 13 with fail
  first | (go_region) | fail
  go_wp2_with fail
  refine bodyPost_ret (v := .tuple #[.agg #[.int .i64 (u.1 : Int), .int .i64 ((u.2 : Int) + 1)], .bool false]) (by simp [results, Tryz.results134, go_sem, t0, t1]) rfl ?_
  exact ⟨GrowQ.of (unhide HR), tb⟩
end Go.Proofs.YtcjnhhbcleljmaaGreatDoor.Sb
namespace Go.Proofs.YtcjnhhbcleljmaaGreatDoor.Sb
open Go.RowKit
open V
set_option maxHeartbeats 4000000 in
set_option maxRecDepth 100000 in
theorem grow_7y (a : Option Addr) (n c : Nat) (ts : List Tr) (z : Nz) (w : World) (hn : ts.length ≤ 20000) (hl : n ≤ ts.length) (hl2 : ts.length ≤ n) (hk : z.k = 7) (u : Tr) (hu : ts.getLast? = some u) (hbare : z.pl.2.1 = noA) (hz0 : z.n.size = 0 ∧ z.m = 0) (hrow : RowQ w a (ts.map qT)) (hub : u.2 ≤ 20000) (hA : z.A = (ts.length : Int) - 1) (hB : z.B = 0) :
    Calls Tryz.prog 134 #[.slice a n c, aggN z] w fun e w' => GrowQ ts z.pl e ∧ Below w.heap.size w w' := by
  have HR : Hid (GrowR ts z.pl (u.1 : Int) ((u.2 : Int) + 1) true) := hide (by
    refine Or.inr ⟨(u.1, u.2 + 1), ?_, rfl, rfl, by simp⟩; rw [growP_one (t := u) (show oneK z.pl.1 = true by rw [show z.pl.1 = z.k from rfl, hk]; decide) hu hbare, if_pos ⟨hA, hB⟩])
  have hnt : (n : Int) = (ts.length : Int) := by omega
  have dA : (z.A == (ts.length : Int) - 1) = true := by simp [hA]
  have dB : (z.B == 0) = true := by simp [hB]
  have dk1 : (z.k == 1) = false := by rw [hk]; rfl
  have dk2 : (z.k == 2) = false := by rw [hk]; rfl
  have dk3 : (z.k == 3) = false := by rw [hk]; rfl
  have dk4 : (z.k == 4) = false := by rw [hk]; rfl
  have dk5 : (z.k == 5) = false := by rw [hk]; rfl
  have dk6 : (z.k == 6) = false := by rw [hk]; rfl
  have dk7 : (z.k == 7) = true := by rw [hk]; rfl
  have dk8 : (z.k == 8) = false := by rw [hk]; rfl
  have hpos : 0 < ts.length := by
    cases ts with
    | nil => cases hu
    | cons t r => simp
  have hnz : ((ts.length : Int) == 0) = false := beq_eq_false_iff_ne.2 (by omega)
  have hzn : z.n.size = 0 ∧ z.m = 0 := hz0
  have e1 := emp_t hzn.1
  have e2 : decide ((0 : Int) < (z.m : Int)) = false := by simp; omega
  have e2' : ¬ 0 < z.m := by omega
  have hai : ts[ts.length - 1]? = some u := by rw [← List.getLast?_eq_getElem?]; exact hu
  have hlt : ts.length - 1 < (ts.map qT).length := by rw [List.length_map]; omega
  obtain ⟨bq, oq, ha, hbl, x0, x1⟩ := hrow.up hlt
  have hgu : (ts.map qT)[ts.length - 1] = qT u := by
    rw [List.getElem_map]
    have := List.getElem?_eq_some_iff.1 hai
    rw [this.2]
  rw [hgu] at x0 x1
  subst ha
  have i0 : (0 : Int) ≤ (ts.length : Int) - 1 := by omega
  have i1 : (ts.length : Int) - 1 < (ts.length : Int) := by omega
  have hix : ((ts.length : Int) - 1).toNat = ts.length - 1 := by omega
  clear hk hu hbare hz0 hzn hai hlt hgu hrow hA hB
  have GG := g0_of w z
  go_enter Tryz.func134, Tryz.ntmps134
  go_upto_region 1 with fail
  generalize (w.alloc (bxNd z)).alloc zq = W at GG x0 x1 ⊢
  obtain ⟨c0, c1, c2, c3, c4⟩ := GG.bn
  obtain ⟨q0, q1, f0, f1⟩ : _ ∧ _ ∧ _ ∧ _ := ⟨GG.q0, GG.q1, GG.f0, GG.f1⟩
  have y0 := cell_on GG.bel x0
  have y1 := cell_on GG.bel x1
  have hbx := below_new W (.cells #[.int .i64 (u.1 : Int), .int .i64 (u.2 : Int)] 129)
  have hnw := heap_alloc_new W (.cells #[.int .i64 (u.1 : Int), .int .i64 (u.2 : Int)] 129)
  have G1 := GG.on hbx
  have v0 : (W.alloc (.cells #[.int .i64 (u.1 : Int), .int .i64 (u.2 : Int)] 129)).cell? ⟨W.heap.size, 0, none⟩ = some (.int .i64 (u.1 : Int)) := by rw [Lib.cell_of_heap hnw]; rfl
  have v1 : (W.alloc (.cells #[.int .i64 (u.1 : Int), .int .i64 (u.2 : Int)] 129)).cell? ⟨W.heap.size, 1, none⟩ = some (.int .i64 (u.2 : Int)) := by rw [Lib.cell_of_heap hnw]; rfl
  have hne : W.heap.size ≠ w.heap.size + 1 := by have := GG.lt; omega
  have hne' : w.heap.size + 1 ≠ W.heap.size := by have := GG.lt; omega
  have hne2 : w.heap.size ≠ w.heap.size + 1 := by omega
  clear x0 x1
  go_upto_region 7 with fail
  clear c0 c1 c2 c3 c4 q0 q1 f0 f1 y0 y1 hnw hbx
  generalize W.alloc (.cells #[.int .i64 (u.1 : Int), .int .i64 (u.2 : Int)] 129) = W1 at G1 v0 v1 ⊢
  obtain ⟨c0, c1, c2, c3, c4⟩ := G1.bn
  obtain ⟨q0, q1, f0, f1⟩ : _ ∧ _ ∧ _ ∧ _ := ⟨G1.q0, G1.q1, G1.f0, G1.f1⟩
  obtain ⟨tb, t0, t1⟩ := G1.told2 (u.1 : Int) ((u.2 : Int) + 1)
  go_upto_region 13 with fail
  first | (go_region) | fail
  go_wp2_with fail
  refine bodyPost_ret (v := .tuple #[.agg #[.int .i64 (u.1 : Int), .int .i64 ((u.2 : Int) + 1)], .bool true]) (by simp [results, Tryz.results134, go_sem, t0, t1]) rfl ?_
  exact ⟨GrowQ.of (unhide HR), tb⟩
set_option maxHeartbeats 4000000 in
set_option maxRecDepth 100000 in
theorem grow_7A (a : Option Addr) (n c : Nat) (ts : List Tr) (z : Nz) (w : World) (hn : ts.length ≤ 20000) (hl : n ≤ ts.length) (hl2 : ts.length ≤ n) (hk : z.k = 7) (u : Tr) (hu : ts.getLast? = some u) (hbare : z.pl.2.1 = noA) (hz0 : z.n.size = 0 ∧ z.m = 0) (hrow : RowQ w a (ts.map qT)) (hub : u.2 ≤ 20000) (hA : z.A ≠ (ts.length : Int) - 1) :
    Calls Tryz.prog 134 #[.slice a n c, aggN z] w fun e w' => GrowQ ts z.pl e ∧ Below w.heap.size w w' := by
  have HR : Hid (GrowR ts z.pl (u.1 : Int) ((u.2 : Int) + 1) false) := hide (by
    refine Or.inl ⟨?_, rfl⟩; rw [growP_one (t := u) (show oneK z.pl.1 = true by rw [show z.pl.1 = z.k from rfl, hk]; decide) hu hbare, if_neg (fun h => hA h.1)])
  have hnt : (n : Int) = (ts.length : Int) := by omega
  have dA : (z.A == (ts.length : Int) - 1) = false := by simp [hA]
  have dk1 : (z.k == 1) = false := by rw [hk]; rfl
  have dk2 : (z.k == 2) = false := by rw [hk]; rfl
  have dk3 : (z.k == 3) = false := by rw [hk]; rfl
  have dk4 : (z.k == 4) = false := by rw [hk]; rfl
  have dk5 : (z.k == 5) = false := by rw [hk]; rfl
  have dk6 : (z.k == 6) = false := by rw [hk]; rfl
  have dk7 : (z.k == 7) = true := by rw [hk]; rfl
  have dk8 : (z.k == 8) = false := by rw [hk]; rfl
  have hpos : 0 < ts.length := by
    cases ts with
    | nil => cases hu
    | cons t r => simp
  have hnz : ((ts.length : Int) == 0) = false := beq_eq_false_iff_ne.2 (by omega)
  have hzn : z.n.size = 0 ∧ z.m = 0 := hz0
  have e1 := emp_t hzn.1
  have e2 : decide ((0 : Int) < (z.m : Int)) = false := by simp; omega
  have e2' : ¬ 0 < z.m := by omega
  have hai : ts[ts.length - 1]? = some u := by rw [← List.getLast?_eq_getElem?]; exact hu
  have hlt : ts.length - 1 < (ts.map qT).length := by rw [List.length_map]; omega
  obtain ⟨bq, oq, ha, hbl, x0, x1⟩ := hrow.up hlt
  have hgu : (ts.map qT)[ts.length - 1] = qT u := by
    rw [List.getElem_map]
    have := List.getElem?_eq_some_iff.1 hai
    rw [this.2]
  rw [hgu] at x0 x1
  subst ha
  have i0 : (0 : Int) ≤ (ts.length : Int) - 1 := by omega
  have i1 : (ts.length : Int) - 1 < (ts.length : Int) := by omega
  have hix : ((ts.length : Int) - 1).toNat = ts.length - 1 := by omega
  clear hk hu hbare hz0 hzn hai hlt hgu hrow hA
  have GG := g0_of w z
  go_enter Tryz.func134, Tryz.ntmps134
  go_upto_region 1 with fail
  generalize (w.alloc (bxNd z)).alloc zq = W at GG x0 x1 ⊢
  obtain ⟨c0, c1, c2, c3, c4⟩ := GG.bn
  obtain ⟨q0, q1, f0, f1⟩ : _ ∧ _ ∧ _ ∧ _ := ⟨GG.q0, GG.q1, GG.f0, GG.f1⟩
  have y0 := cell_on GG.bel x0
  have y1 := cell_on GG.bel x1
  have hbx := below_new W (.cells #[.int .i64 (u.1 : Int), .int .i64 (u.2 : Int)] 129)
  have hnw := heap_alloc_new W (.cells #[.int .i64 (u.1 : Int), .int .i64 (u.2 : Int)] 129)
  have G1 := GG.on hbx
  have v0 : (W.alloc (.cells #[.int .i64 (u.1 : Int), .int .i64 (u.2 : Int)] 129)).cell? ⟨W.heap.size, 0, none⟩ = some (.int .i64 (u.1 : Int)) := by rw [Lib.cell_of_heap hnw]; rfl
  have v1 : (W.alloc (.cells #[.int .i64 (u.1 : Int), .int .i64 (u.2 : Int)] 129)).cell? ⟨W.heap.size, 1, none⟩ = some (.int .i64 (u.2 : Int)) := by rw [Lib.cell_of_heap hnw]; rfl
  have hne : W.heap.size ≠ w.heap.size + 1 := by have := GG.lt; omega
  have hne' : w.heap.size + 1 ≠ W.heap.size := by have := GG.lt; omega
  have hne2 : w.heap.size ≠ w.heap.size + 1 := by omega
  clear x0 x1
  go_upto_region 7 with fail
  clear c0 c1 c2 c3 c4 q0 q1 f0 f1 y0 y1 hnw hbx
  generalize W.alloc (.cells #[.int .i64 (u.1 : Int), .int .i64 (u.2 : Int)] 129) = W1 at G1 v0 v1 ⊢
  obtain ⟨c0, c1, c2, c3, c4⟩ := G1.bn
  obtain ⟨q0, q1, f0, f1⟩ : _ ∧ _ ∧ _ ∧ _ := ⟨G1.q0, G1.q1, G1.f0, G1.f1⟩
  obtain ⟨tb, t0, t1⟩ := G1.told2 (u.1 : Int) ((u.2 : Int) + 1)
  go_upto_region 13 with fail
  first | (go_region) | fail
  go_wp2_with fail
  refine bodyPost_ret (v := .tuple #[.agg #[.int .i64 (u.1 : Int), .int .i64 ((u.2 : Int) + 1)], .bool false]) (by simp [results, Tryz.results134, go_sem, t0, t1]) rfl ?_
  exact ⟨GrowQ.of (unhide HR), tb⟩
set_option maxHeartbeats 4000000 in
set_option maxRecDepth 100000 in
theorem grow_7B (a : Option Addr) (n c : Nat) (ts : List Tr) (z : Nz) (w : World) (hn : ts.length ≤ 20000) (hl : n ≤ ts.length) (hl2 : ts.length ≤ n) (hk : z.k = 7) (u : Tr) (hu : ts.getLast? = some u) (hbare : z.pl.2.1 = noA) (hz0 : z.n.size = 0 ∧ z.m = 0) (hrow : RowQ w a (ts.map qT)) (hub : u.2 ≤ 20000) (hA : z.A = (ts.length : Int) - 1) (hB : z.B ≠ 0) :
    Calls Tryz.prog 134 #[.slice a n c, aggN z] w fun e w' => GrowQ ts z.pl e ∧ Below w.heap.size w w' := by
  have HR : Hid (GrowR ts z.pl (u.1 : Int) ((u.2 : Int) + 1) false) := hide (by
    refine Or.inl ⟨?_, rfl⟩; rw [growP_one (t := u) (show oneK z.pl.1 = true by rw [show z.pl.1 = z.k from rfl, hk]; decide) hu hbare, if_neg (fun h => hB h.2)])
  have hnt : (n : Int) = (ts.length : Int) := by omega
  have dA : (z.A == (ts.length : Int) - 1) = true := by simp [hA]
  have dB : (z.B == 0) = false := by simp [hB]
  have dk1 : (z.k == 1) = false := by rw [hk]; rfl
  have dk2 : (z.k == 2) = false := by rw [hk]; rfl
  have dk3 : (z.k == 3) = false := by rw [hk]; rfl
  have dk4 : (z.k == 4) = false := by rw [hk]; rfl
  have dk5 : (z.k == 5) = false := by rw [hk]; rfl
  have dk6 : (z.k == 6) = false := by rw [hk]; rfl
  have dk7 : (z.k == 7) = true := by rw [hk]; rfl
  have dk8 : (z.k == 8) = false := by rw [hk]; rfl
  have hpos : 0 < ts.length := by
    cases ts with
    | nil => cases hu
    | cons t r => simp
  have hnz : ((ts.length : Int) == 0) = false := beq_eq_false_iff_ne.2 (by omega)
  have hzn : z.n.size = 0 ∧ z.m = 0 := hz0
  have e1 := emp_t hzn.1
  have e2 : decide ((0 : Int) < (z.m : Int)) = false := by simp; omega
  have e2' : ¬ 0 < z.m := by omega
  have hai : ts[ts.length - 1]? = some u := by rw [← List.getLast?_eq_getElem?]; exact hu
  have hlt : ts.length - 1 < (ts.map qT).length := by rw [List.length_map]; omega
  obtain ⟨bq, oq, ha, hbl, x0, x1⟩ := hrow.up hlt
  have hgu : (ts.map qT)[ts.length - 1] = qT u := by
    rw [List.getElem_map]
    have := List.getElem?_eq_some_iff.1 hai
    rw [this.2]
  rw [hgu] at x0 x1
  subst ha
  have i0 : (0 : Int) ≤ (ts.length : Int) - 1 := by omega
  have i1 : (ts.length : Int) - 1 < (ts.length : Int) := by omega
  have hix : ((ts.length : Int) - 1).toNat = ts.length - 1 := by omega
  clear hk hu hbare hz0 hzn hai hlt hgu hrow hA hB
  have GG := g0_of w z
  go_enter Tryz.func134, Tryz.ntmps134
  go_upto_region 1 with fail
  generalize (w.alloc (bxNd z)).alloc zq = W at GG x0 x1 ⊢
  obtain ⟨c0, c1, c2, c3, c4⟩ := GG.bn
  obtain ⟨q0, q1, f0, f1⟩ : _ ∧ _ ∧ _ ∧ _ := ⟨GG.q0, GG.q1, GG.f0, GG.f1⟩
  have y0 := cell_on GG.bel x0
  have y1 := cell_on GG.bel x1
  have hbx := below_new W (.cells #[.int .i64 (u.1 : Int), .int .i64 (u.2 : Int)] 129)
  have hnw := heap_alloc_new W (.cells #[.int .i64 (u.1 : Int), .int .i64 (u.2 : Int)] 129)
  have G1 := GG.on hbx
  have v0 : (W.alloc (.cells #[.int .i64 (u.1 : Int), .int .i64 (u.2 : Int)] 129)).cell? ⟨W.heap.size, 0, none⟩ = some (.int .i64 (u.1 : Int)) := by rw [Lib.cell_of_heap hnw]; rfl
  have v1 : (W.alloc (.cells #[.int .i64 (u.1 : Int), .int .i64 (u.2 : Int)] 129)).cell? ⟨W.heap.size, 1, none⟩ = some (.int .i64 (u.2 : Int)) := by rw [Lib.cell_of_heap hnw]; rfl
  have hne : W.heap.size ≠ w.heap.size + 1 := by have := GG.lt; omega
  have hne' : w.heap.size + 1 ≠ W.heap.size := by have := GG.lt; omega
  have hne2 : w.heap.size ≠ w.heap.size + 1 := by omega
  clear x0 x1
  go_upto_region 7 with fail
  clear c0 c1 c2 c3 c4 q0 q1 f0 f1 y0 y1 hnw hbx
  generalize W.alloc (.cells #[.int .i64 (u.1 : Int), .int .i64 (u.2 : Int)] 129) = W1 at G1 v0 v1 ⊢
  obtain ⟨c0, c1, c2, c3, c4⟩ := G1.bn
  obtain ⟨q0, q1, f0, f1⟩ : _ ∧ _ ∧ _ ∧ _ := ⟨G1.q0, G1.q1, G1.f0, G1.f1⟩
  obtain ⟨tb, t0, t1⟩ := G1.told2 (u.1 : Int) ((u.2 : Int) + 1)
  go_upto_region 13 with fail
  first | (go_region) | fail
  go_wp2_with fail
  refine bodyPost_ret (v := .tuple #[.agg #[.int .i64 (u.1 : Int), .int .i64 ((u.2 : Int) + 1)], .bool false]) (by simp [results, Tryz.results134, go_sem, t0, t1]) rfl ?_
  exact ⟨GrowQ.of (unhide HR), tb⟩
set_option maxHeartbeats 4000000 in
set_option maxRecDepth 100000 in
theorem grow_3B (a : Option Addr) (n c : Nat) (ts : List Tr) (z : Nz) (w : World) (hn : ts.length ≤ 20000) (hl : n ≤ ts.length) (hl2 : ts.length ≤ n) (hk : z.k = 3) (u : Tr) (hu : ts.getLast? = some u) (hbare : z.pl.2.1 = noA) (hz0 : z.n.size = 0 ∧ z.m = 0) (hrow : RowQ w a (ts.map qT)) (_hub : u.2 ≤ 20000) (_hua : u.1 ≤ 20000) (hB : z.B ≠ (ts.length : Int) - 1) :
    Calls Tryz.prog 134 #[.slice a n c, aggN z] w fun e w' => GrowQ ts z.pl e ∧ Below w.heap.size w w' := by
  have HR : Hid (GrowR ts z.pl (0) (0) false) := hide (by
    refine Or.inl ⟨?_, rfl⟩; rw [growP_two (t := u) (show twoK z.pl.1 = true by rw [show z.pl.1 = z.k from rfl, hk]; decide) hu hbare, if_neg (fun h => hB h.1)])
  have hnt : (n : Int) = (ts.length : Int) := by omega
  have dB : (z.B != (ts.length : Int) - 1) = true := by simp [hB]
  have dk1 : (z.k == 1) = false := by rw [hk]; rfl
  have dk2 : (z.k == 2) = false := by rw [hk]; rfl
  have dk3 : (z.k == 3) = true := by rw [hk]; rfl
  have dk4 : (z.k == 4) = false := by rw [hk]; rfl
  have dk5 : (z.k == 5) = false := by rw [hk]; rfl
  have dk6 : (z.k == 6) = false := by rw [hk]; rfl
  have dk7 : (z.k == 7) = false := by rw [hk]; rfl
  have dk8 : (z.k == 8) = false := by rw [hk]; rfl
  have hpos : 0 < ts.length := by
    cases ts with
    | nil => cases hu
    | cons t r => simp
  have hnz : ((ts.length : Int) == 0) = false := beq_eq_false_iff_ne.2 (by omega)
  have hzn : z.n.size = 0 ∧ z.m = 0 := hz0
  have e1 := emp_t hzn.1
  have e2 : decide ((0 : Int) < (z.m : Int)) = false := by simp; omega
  have e2' : ¬ 0 < z.m := by omega
  have hai : ts[ts.length - 1]? = some u := by rw [← List.getLast?_eq_getElem?]; exact hu
  have hlt : ts.length - 1 < (ts.map qT).length := by rw [List.length_map]; omega
  obtain ⟨bq, oq, ha, hbl, x0, x1⟩ := hrow.up hlt
  have hgu : (ts.map qT)[ts.length - 1] = qT u := by
    rw [List.getElem_map]
    have := List.getElem?_eq_some_iff.1 hai
    rw [this.2]
  rw [hgu] at x0 x1
  subst ha
  have i0 : (0 : Int) ≤ (ts.length : Int) - 1 := by omega
  have i1 : (ts.length : Int) - 1 < (ts.length : Int) := by omega
  have hix : ((ts.length : Int) - 1).toNat = ts.length - 1 := by omega
  clear hk hu hbare hz0 hzn hai hlt hgu hrow hB
  have GG := g0_of w z
  go_enter Tryz.func134, Tryz.ntmps134
  go_upto_region 1 with fail
  generalize (w.alloc (bxNd z)).alloc zq = W at GG x0 x1 ⊢
  obtain ⟨c0, c1, c2, c3, c4⟩ := GG.bn
  obtain ⟨q0, q1, f0, f1⟩ : _ ∧ _ ∧ _ ∧ _ := ⟨GG.q0, GG.q1, GG.f0, GG.f1⟩
  have y0 := cell_on GG.bel x0
  have y1 := cell_on GG.bel x1
  have hbx := below_new W (.cells #[.int .i64 (u.1 : Int), .int .i64 (u.2 : Int)] 129)
  have hnw := heap_alloc_new W (.cells #[.int .i64 (u.1 : Int), .int .i64 (u.2 : Int)] 129)
  have G1 := GG.on hbx
  have v0 : (W.alloc (.cells #[.int .i64 (u.1 : Int), .int .i64 (u.2 : Int)] 129)).cell? ⟨W.heap.size, 0, none⟩ = some (.int .i64 (u.1 : Int)) := by rw [Lib.cell_of_heap hnw]; rfl
  have v1 : (W.alloc (.cells #[.int .i64 (u.1 : Int), .int .i64 (u.2 : Int)] 129)).cell? ⟨W.heap.size, 1, none⟩ = some (.int .i64 (u.2 : Int)) := by rw [Lib.cell_of_heap hnw]; rfl
  have hne : W.heap.size ≠ w.heap.size + 1 := by have := GG.lt; omega
  have hne' : w.heap.size + 1 ≠ W.heap.size := by have := GG.lt; omega
  have hne2 : w.heap.size ≠ w.heap.size + 1 := by omega
  clear x0 x1
  go_upto_region 7 with fail
  clear c0 c1 c2 c3 c4 q0 q1 f0 f1 y0 y1 hnw hbx
  generalize W.alloc (.cells #[.int .i64 (u.1 : Int), .int .i64 (u.2 : Int)] 129) = W1 at G1 v0 v1 ⊢
  obtain ⟨c0, c1, c2, c3, c4⟩ := G1.bn
  obtain ⟨q0, q1, f0, f1⟩ : _ ∧ _ ∧ _ ∧ _ := ⟨G1.q0, G1.q1, G1.f0, G1.f1⟩
  obtain ⟨tb, t0, t1⟩ := G1.told 0 0
  go_wp2_with fail
  first
  | (refine bodyPost_ret (v := .tuple #[.agg #[.int .i64 0, .int .i64 0], .bool false]) (by simp [results, Tryz.results134, go_sem, t0, t1]) rfl ?_
     exact ⟨GrowQ.of (unhide HR), tb⟩)
  | (refine bodyPost_ret (v := .tuple #[.agg #[.int .i64 0, .int .i64 0], .bool false]) (by simp [results, Tryz.results134, go_sem, q0, q1]) rfl ?_
     exact ⟨GrowQ.of (unhide HR), G1.bel⟩)
set_option maxHeartbeats 4000000 in
set_option maxRecDepth 100000 in
theorem grow_3A (a : Option Addr) (n c : Nat) (ts : List Tr) (z : Nz) (w : World) (hn : ts.length ≤ 20000) (hl : n ≤ ts.length) (hl2 : ts.length ≤ n) (hk : z.k = 3) (u : Tr) (hu : ts.getLast? = some u) (hbare : z.pl.2.1 = noA) (hz0 : z.n.size = 0 ∧ z.m = 0) (hrow : RowQ w a (ts.map qT)) (_hub : u.2 ≤ 20000) (_hua : u.1 ≤ 20000) (hB : z.B = (ts.length : Int) - 1) (hA : z.A ≠ (u.1 : Int) - 1) :
    Calls Tryz.prog 134 #[.slice a n c, aggN z] w fun e w' => GrowQ ts z.pl e ∧ Below w.heap.size w w' := by
  have HR : Hid (GrowR ts z.pl (0) (0) false) := hide (by
    refine Or.inl ⟨?_, rfl⟩; rw [growP_two (t := u) (show twoK z.pl.1 = true by rw [show z.pl.1 = z.k from rfl, hk]; decide) hu hbare, if_neg (fun h => hA h.2.1)])
  have hnt : (n : Int) = (ts.length : Int) := by omega
  have dB : (z.B != (ts.length : Int) - 1) = false := by simp [hB]
  have dA : (z.A != (u.1 : Int) - 1) = true := by simp [hA]
  have dk1 : (z.k == 1) = false := by rw [hk]; rfl
  have dk2 : (z.k == 2) = false := by rw [hk]; rfl
  have dk3 : (z.k == 3) = true := by rw [hk]; rfl
  have dk4 : (z.k == 4) = false := by rw [hk]; rfl
  have dk5 : (z.k == 5) = false := by rw [hk]; rfl
  have dk6 : (z.k == 6) = false := by rw [hk]; rfl
  have dk7 : (z.k == 7) = false := by rw [hk]; rfl
  have dk8 : (z.k == 8) = false := by rw [hk]; rfl
  have hpos : 0 < ts.length := by
    cases ts with
    | nil => cases hu
    | cons t r => simp
  have hnz : ((ts.length : Int) == 0) = false := beq_eq_false_iff_ne.2 (by omega)
  have hzn : z.n.size = 0 ∧ z.m = 0 := hz0
  have e1 := emp_t hzn.1
  have e2 : decide ((0 : Int) < (z.m : Int)) = false := by simp; omega
  have e2' : ¬ 0 < z.m := by omega
  have hai : ts[ts.length - 1]? = some u := by rw [← List.getLast?_eq_getElem?]; exact hu
  have hlt : ts.length - 1 < (ts.map qT).length := by rw [List.length_map]; omega
  obtain ⟨bq, oq, ha, hbl, x0, x1⟩ := hrow.up hlt
  have hgu : (ts.map qT)[ts.length - 1] = qT u := by
    rw [List.getElem_map]
    have := List.getElem?_eq_some_iff.1 hai
    rw [this.2]
  rw [hgu] at x0 x1
  subst ha
  have i0 : (0 : Int) ≤ (ts.length : Int) - 1 := by omega
  have i1 : (ts.length : Int) - 1 < (ts.length : Int) := by omega
  have hix : ((ts.length : Int) - 1).toNat = ts.length - 1 := by omega
  clear hk hu hbare hz0 hzn hai hlt hgu hrow hB hA
  have GG := g0_of w z
  go_enter Tryz.func134, Tryz.ntmps134
  go_upto_region 1 with fail
  generalize (w.alloc (bxNd z)).alloc zq = W at GG x0 x1 ⊢
  obtain ⟨c0, c1, c2, c3, c4⟩ := GG.bn
  obtain ⟨q0, q1, f0, f1⟩ : _ ∧ _ ∧ _ ∧ _ := ⟨GG.q0, GG.q1, GG.f0, GG.f1⟩
  have y0 := cell_on GG.bel x0
  have y1 := cell_on GG.bel x1
  have hbx := below_new W (.cells #[.int .i64 (u.1 : Int), .int .i64 (u.2 : Int)] 129)
  have hnw := heap_alloc_new W (.cells #[.int .i64 (u.1 : Int), .int .i64 (u.2 : Int)] 129)
  have G1 := GG.on hbx
  have v0 : (W.alloc (.cells #[.int .i64 (u.1 : Int), .int .i64 (u.2 : Int)] 129)).cell? ⟨W.heap.size, 0, none⟩ = some (.int .i64 (u.1 : Int)) := by rw [Lib.cell_of_heap hnw]; rfl
  have v1 : (W.alloc (.cells #[.int .i64 (u.1 : Int), .int .i64 (u.2 : Int)] 129)).cell? ⟨W.heap.size, 1, none⟩ = some (.int .i64 (u.2 : Int)) := by rw [Lib.cell_of_heap hnw]; rfl
  have hne : W.heap.size ≠ w.heap.size + 1 := by have := GG.lt; omega
  have hne' : w.heap.size + 1 ≠ W.heap.size := by have := GG.lt; omega
  have hne2 : w.heap.size ≠ w.heap.size + 1 := by omega
  clear x0 x1
  go_upto_region 7 with fail
  clear c0 c1 c2 c3 c4 q0 q1 f0 f1 y0 y1 hnw hbx
  generalize W.alloc (.cells #[.int .i64 (u.1 : Int), .int .i64 (u.2 : Int)] 129) = W1 at G1 v0 v1 ⊢
  obtain ⟨c0, c1, c2, c3, c4⟩ := G1.bn
  obtain ⟨q0, q1, f0, f1⟩ : _ ∧ _ ∧ _ ∧ _ := ⟨G1.q0, G1.q1, G1.f0, G1.f1⟩
  obtain ⟨tb, t0, t1⟩ := G1.told 0 0
  go_wp2_with fail
  first
  | (refine bodyPost_ret (v := .tuple #[.agg #[.int .i64 0, .int .i64 0], .bool false]) (by simp [results, Tryz.results134, go_sem, t0, t1]) rfl ?_
     exact ⟨GrowQ.of (unhide HR), tb⟩)
  | (refine bodyPost_ret (v := .tuple #[.agg #[.int .i64 0, .int .i64 0], .bool false]) (by simp [results, Tryz.results134, go_sem, q0, q1]) rfl ?_
     exact ⟨GrowQ.of (unhide HR), G1.bel⟩)
set_option maxHeartbeats 4000000 in
set_option maxRecDepth 100000 in
theorem grow_3N (a : Option Addr) (n c : Nat) (ts : List Tr) (z : Nz) (w : World) (hn : ts.length ≤ 20000) (hl : n ≤ ts.length) (hl2 : ts.length ≤ n) (hk : z.k = 3) (u : Tr) (hu : ts.getLast? = some u) (hbare : z.pl.2.1 = noA) (hz0 : z.n.size = 0 ∧ z.m = 0) (hrow : RowQ w a (ts.map qT)) (_hub : u.2 ≤ 20000) (_hua : u.1 ≤ 20000) (hB : z.B = (ts.length : Int) - 1) (hA : z.A = (u.1 : Int) - 1) (hN : u.1 = 0) :
    Calls Tryz.prog 134 #[.slice a n c, aggN z] w fun e w' => GrowQ ts z.pl e ∧ Below w.heap.size w w' := by
  have HR : Hid (GrowR ts z.pl (0) (0) false) := hide (by
    refine Or.inl ⟨?_, rfl⟩; rw [growP_two (t := u) (show twoK z.pl.1 = true by rw [show z.pl.1 = z.k from rfl, hk]; decide) hu hbare, if_neg (fun h => (by have h1 := h.2.2; rw [show z.pl.2.2.1 = z.A from rfl, hA, hN] at h1; exact absurd h1 (by decide)))])
  have hnt : (n : Int) = (ts.length : Int) := by omega
  have dB : (z.B != (ts.length : Int) - 1) = false := by simp [hB]
  have dA : (z.A != (u.1 : Int) - 1) = false := by simp [hA]
  have dN : decide (z.A < 0) = true := by rw [hA, hN]; rfl
  have dN2 : z.A < 0 := by rw [hA, hN]; decide
  have dk1 : (z.k == 1) = false := by rw [hk]; rfl
  have dk2 : (z.k == 2) = false := by rw [hk]; rfl
  have dk3 : (z.k == 3) = true := by rw [hk]; rfl
  have dk4 : (z.k == 4) = false := by rw [hk]; rfl
  have dk5 : (z.k == 5) = false := by rw [hk]; rfl
  have dk6 : (z.k == 6) = false := by rw [hk]; rfl
  have dk7 : (z.k == 7) = false := by rw [hk]; rfl
  have dk8 : (z.k == 8) = false := by rw [hk]; rfl
  have hpos : 0 < ts.length := by
    cases ts with
    | nil => cases hu
    | cons t r => simp
  have hnz : ((ts.length : Int) == 0) = false := beq_eq_false_iff_ne.2 (by omega)
  have hzn : z.n.size = 0 ∧ z.m = 0 := hz0
  have e1 := emp_t hzn.1
  have e2 : decide ((0 : Int) < (z.m : Int)) = false := by simp; omega
  have e2' : ¬ 0 < z.m := by omega
  have hai : ts[ts.length - 1]? = some u := by rw [← List.getLast?_eq_getElem?]; exact hu
  have hlt : ts.length - 1 < (ts.map qT).length := by rw [List.length_map]; omega
  obtain ⟨bq, oq, ha, hbl, x0, x1⟩ := hrow.up hlt
  have hgu : (ts.map qT)[ts.length - 1] = qT u := by
    rw [List.getElem_map]
    have := List.getElem?_eq_some_iff.1 hai
    rw [this.2]
  rw [hgu] at x0 x1
  subst ha
  have i0 : (0 : Int) ≤ (ts.length : Int) - 1 := by omega
  have i1 : (ts.length : Int) - 1 < (ts.length : Int) := by omega
  have hix : ((ts.length : Int) - 1).toNat = ts.length - 1 := by omega
  clear hk hu hbare hz0 hzn hai hlt hgu hrow hB hA hN
  have GG := g0_of w z
  go_enter Tryz.func134, Tryz.ntmps134
  go_upto_region 1 with fail
  generalize (w.alloc (bxNd z)).alloc zq = W at GG x0 x1 ⊢
  obtain ⟨c0, c1, c2, c3, c4⟩ := GG.bn
  obtain ⟨q0, q1, f0, f1⟩ : _ ∧ _ ∧ _ ∧ _ := ⟨GG.q0, GG.q1, GG.f0, GG.f1⟩
  have y0 := cell_on GG.bel x0
  have y1 := cell_on GG.bel x1
  have hbx := below_new W (.cells #[.int .i64 (u.1 : Int), .int .i64 (u.2 : Int)] 129)
  have hnw := heap_alloc_new W (.cells #[.int .i64 (u.1 : Int), .int .i64 (u.2 : Int)] 129)
  have G1 := GG.on hbx
  have v0 : (W.alloc (.cells #[.int .i64 (u.1 : Int), .int .i64 (u.2 : Int)] 129)).cell? ⟨W.heap.size, 0, none⟩ = some (.int .i64 (u.1 : Int)) := by rw [Lib.cell_of_heap hnw]; rfl
  have v1 : (W.alloc (.cells #[.int .i64 (u.1 : Int), .int .i64 (u.2 : Int)] 129)).cell? ⟨W.heap.size, 1, none⟩ = some (.int .i64 (u.2 : Int)) := by rw [Lib.cell_of_heap hnw]; rfl
  have hne : W.heap.size ≠ w.heap.size + 1 := by have := GG.lt; omega
  have hne' : w.heap.size + 1 ≠ W.heap.size := by have := GG.lt; omega
  have hne2 : w.heap.size ≠ w.heap.size + 1 := by omega
  clear x0 x1
  go_upto_region 7 with fail
  clear c0 c1 c2 c3 c4 q0 q1 f0 f1 y0 y1 hnw hbx
  generalize W.alloc (.cells #[.int .i64 (u.1 : Int), .int .i64 (u.2 : Int)] 129) = W1 at G1 v0 v1 ⊢
  obtain ⟨c0, c1, c2, c3, c4⟩ := G1.bn
  obtain ⟨q0, q1, f0, f1⟩ : _ ∧ _ ∧ _ ∧ _ := ⟨G1.q0, G1.q1, G1.f0, G1.f1⟩
  obtain ⟨tb, t0, t1⟩ := G1.told 0 0
  go_wp2_with fail
  first
  | (refine bodyPost_ret (v := .tuple #[.agg #[.int .i64 0, .int .i64 0], .bool false]) (by simp [results, Tryz.results134, go_sem, t0, t1]) rfl ?_
     exact ⟨GrowQ.of (unhide HR), tb⟩)
  | (refine bodyPost_ret (v := .tuple #[.agg #[.int .i64 0, .int .i64 0], .bool false]) (by simp [results, Tryz.results134, go_sem, q0, q1]) rfl ?_
     exact ⟨GrowQ.of (unhide HR), G1.bel⟩)
set_option maxHeartbeats 4000000 in
set_option maxRecDepth 100000 in
theorem grow_3y (a : Option Addr) (n c : Nat) (ts : List Tr) (z : Nz) (w : World) (hn : ts.length ≤ 20000) (hl : n ≤ ts.length) (hl2 : ts.length ≤ n) (hk : z.k = 3) (u : Tr) (hu : ts.getLast? = some u) (hbare : z.pl.2.1 = noA) (hz0 : z.n.size = 0 ∧ z.m = 0) (hrow : RowQ w a (ts.map qT)) (_hub : u.2 ≤ 20000) (_hua : u.1 ≤ 20000) (hB : z.B = (ts.length : Int) - 1) (hA : z.A = (u.1 : Int) - 1) (hN : 1 ≤ u.1) (v : Tr) (hv : ts[u.1 - 1]? = some v) (hvb : v.2 ≤ 20000) :
    Calls Tryz.prog 134 #[.slice a n c, aggN z] w fun e w' => GrowQ ts z.pl e ∧ Below w.heap.size w w' := by
  have HR : Hid (GrowR ts z.pl ((v.1 : Int)) (max (v.2 : Int) (u.2 : Int) + 1) true) := hide (by
    refine Or.inr ⟨(v.1, max v.2 u.2 + 1), ?_, rfl, rfl, by simp only; omega⟩; rw [growP_two (t := u) (show twoK z.pl.1 = true by rw [show z.pl.1 = z.k from rfl, hk]; decide) hu hbare, if_pos ⟨hB, hA, by rw [show z.pl.2.2.1 = z.A from rfl, hA]; omega⟩, show z.pl.2.2.1.toNat = u.1 - 1 by (rw [show z.pl.2.2.1 = z.A from rfl, hA]; omega), hv]; rfl)
  have hnt : (n : Int) = (ts.length : Int) := by omega
  have dB : (z.B != (ts.length : Int) - 1) = false := by simp [hB]
  have dA : (z.A != (u.1 : Int) - 1) = false := by simp [hA]
  have dN2 : ¬ z.A < 0 := by rw [hA]; omega
  have dN : decide (z.A < 0) = false := decide_eq_false dN2
  have hvl : u.1 - 1 < ts.length := (List.getElem?_eq_some_iff.1 hv).1
  have dN3 : (0 : Int) ≤ z.A := by omega
  have dN4 : z.A < (ts.length : Int) := by rw [hA]; omega
  have dN5 : z.A.toNat = u.1 - 1 := by rw [hA]; omega
  have dk1 : (z.k == 1) = false := by rw [hk]; rfl
  have dk2 : (z.k == 2) = false := by rw [hk]; rfl
  have dk3 : (z.k == 3) = true := by rw [hk]; rfl
  have dk4 : (z.k == 4) = false := by rw [hk]; rfl
  have dk5 : (z.k == 5) = false := by rw [hk]; rfl
  have dk6 : (z.k == 6) = false := by rw [hk]; rfl
  have dk7 : (z.k == 7) = false := by rw [hk]; rfl
  have dk8 : (z.k == 8) = false := by rw [hk]; rfl
  have hpos : 0 < ts.length := by
    cases ts with
    | nil => cases hu
    | cons t r => simp
  have hnz : ((ts.length : Int) == 0) = false := beq_eq_false_iff_ne.2 (by omega)
  have hzn : z.n.size = 0 ∧ z.m = 0 := hz0
  have e1 := emp_t hzn.1
  have e2 : decide ((0 : Int) < (z.m : Int)) = false := by simp; omega
  have e2' : ¬ 0 < z.m := by omega
  have hai : ts[ts.length - 1]? = some u := by rw [← List.getLast?_eq_getElem?]; exact hu
  have hlt : ts.length - 1 < (ts.map qT).length := by rw [List.length_map]; omega
  obtain ⟨bq, oq, ha, hbl, x0, x1⟩ := hrow.up hlt
  have hgu : (ts.map qT)[ts.length - 1] = qT u := by
    rw [List.getElem_map]
    have := List.getElem?_eq_some_iff.1 hai
    rw [this.2]
  rw [hgu] at x0 x1
  obtain ⟨bq2, oq2, ha2, -, w0', w1'⟩ := hrow.up (i := u.1 - 1) (by rw [List.length_map]; exact hvl)
  rw [ha] at ha2
  cases ha2
  have hgv : (ts.map qT)[u.1 - 1]'(by rw [List.length_map]; exact hvl) = qT v := by
    rw [List.getElem_map]
    have := List.getElem?_eq_some_iff.1 hv
    rw [this.2]
  rw [hgv] at w0' w1'
  subst ha
  have i0 : (0 : Int) ≤ (ts.length : Int) - 1 := by omega
  have i1 : (ts.length : Int) - 1 < (ts.length : Int) := by omega
  have hix : ((ts.length : Int) - 1).toNat = ts.length - 1 := by omega
  clear hk hu hbare hz0 hzn hai hlt hgu hrow hB hA hN hvl hv hgv
  have GG := g0_of w z
  go_enter Tryz.func134, Tryz.ntmps134
  go_upto_region 1 with fail
  generalize (w.alloc (bxNd z)).alloc zq = W at GG x0 x1 w0' w1' ⊢
  obtain ⟨c0, c1, c2, c3, c4⟩ := GG.bn
  obtain ⟨q0, q1, f0, f1⟩ : _ ∧ _ ∧ _ ∧ _ := ⟨GG.q0, GG.q1, GG.f0, GG.f1⟩
  have y0 := cell_on GG.bel x0
  have y1 := cell_on GG.bel x1
  have y2 := cell_on GG.bel w0'
  have y3 := cell_on GG.bel w1'
  clear w0' w1'
  have hbx := below_new W (.cells #[.int .i64 (u.1 : Int), .int .i64 (u.2 : Int)] 129)
  have hnw := heap_alloc_new W (.cells #[.int .i64 (u.1 : Int), .int .i64 (u.2 : Int)] 129)
  have G1 := GG.on hbx
  have v0 : (W.alloc (.cells #[.int .i64 (u.1 : Int), .int .i64 (u.2 : Int)] 129)).cell? ⟨W.heap.size, 0, none⟩ = some (.int .i64 (u.1 : Int)) := by rw [Lib.cell_of_heap hnw]; rfl
  have v1 : (W.alloc (.cells #[.int .i64 (u.1 : Int), .int .i64 (u.2 : Int)] 129)).cell? ⟨W.heap.size, 1, none⟩ = some (.int .i64 (u.2 : Int)) := by rw [Lib.cell_of_heap hnw]; rfl
  have hne : W.heap.size ≠ w.heap.size + 1 := by have := GG.lt; omega
  have hne' : w.heap.size + 1 ≠ W.heap.size := by have := GG.lt; omega
  have hne2 : w.heap.size ≠ w.heap.size + 1 := by omega
  have y4 := cell_on hbx y2
  have y5 := cell_on hbx y3
  clear x0 x1
  go_upto_region 7 with fail
  clear c0 c1 c2 c3 c4 q0 q1 f0 f1 y0 y1 hnw y2 y3
  generalize W.alloc (.cells #[.int .i64 (u.1 : Int), .int .i64 (u.2 : Int)] 129) = W1 at G1 v0 v1 y4 y5 hbx ⊢
  obtain ⟨c0, c1, c2, c3, c4⟩ := G1.bn
  have hbx2 := below_new W1 (.cells #[.int .i64 (v.1 : Int), .int .i64 (v.2 : Int)] 129)
  have hnw2 := heap_alloc_new W1 (.cells #[.int .i64 (v.1 : Int), .int .i64 (v.2 : Int)] 129)
  have G2 := G1.on hbx2
  have z0 : (W1.alloc (.cells #[.int .i64 (v.1 : Int), .int .i64 (v.2 : Int)] 129)).cell? ⟨W1.heap.size, 0, none⟩ = some (.int .i64 (v.1 : Int)) := by rw [Lib.cell_of_heap hnw2]; rfl
  have z1 : (W1.alloc (.cells #[.int .i64 (v.1 : Int), .int .i64 (v.2 : Int)] 129)).cell? ⟨W1.heap.size, 1, none⟩ = some (.int .i64 (v.2 : Int)) := by rw [Lib.cell_of_heap hnw2]; rfl
  have v2 := cell_on hbx2 v0
  have v3 := cell_on hbx2 v1
  clear hbx
  go_upto_region 20 with fail
  clear c0 c1 c2 c3 c4 y4 y5 v0 v1 hbx2 hnw2
  generalize W1.alloc (.cells #[.int .i64 (v.1 : Int), .int .i64 (v.2 : Int)] 129) = W2 at G2 z0 z1 v2 v3 ⊢
  obtain ⟨c0, c1, c2, c3, c4⟩ := G2.bn
  obtain ⟨q0, q1, f0, f1⟩ : _ ∧ _ ∧ _ ∧ _ := ⟨G2.q0, G2.q1, G2.f0, G2.f1⟩
  obtain ⟨tb, t0, t1⟩ := G2.told (v.1 : Int) (max (v.2 : Int) (u.2 : Int) + 1)
  go_wp2_with fail
  refine bodyPost_ret (v := .tuple #[.agg #[.int .i64 (v.1 : Int), .int .i64 (max (v.2 : Int) (u.2 : Int) + 1)], .bool true]) (by simp [results, Tryz.results134, go_sem, t0, t1]) rfl ?_
  exact ⟨GrowQ.of (unhide HR), tb⟩
end Go.Proofs.YtcjnhhbcleljmaaGreatDoor.Sb
namespace Go.Proofs.YtcjnhhbcleljmaaGreatDoor.Sb
open Go.RowKit
open V
set_option maxHeartbeats 4000000 in
set_option maxRecDepth 100000 in
theorem grow_4B (a : Option Addr) (n c : Nat) (ts : List Tr) (z : Nz) (w : World) (hn : ts.length ≤ 20000) (hl : n ≤ ts.length) (hl2 : ts.length ≤ n) (hk : z.k = 4) (u : Tr) (hu : ts.getLast? = some u) (hbare : z.pl.2.1 = noA) (hz0 : z.n.size = 0 ∧ z.m = 0) (hrow : RowQ w a (ts.map qT)) (_hub : u.2 ≤ 20000) (_hua : u.1 ≤ 20000) (hB : z.B ≠ (ts.length : Int) - 1) :
    Calls Tryz.prog 134 #[.slice a n c, aggN z] w fun e w' => GrowQ ts z.pl e ∧ Below w.heap.size w w' := by
  have HR : Hid (GrowR ts z.pl (0) (0) false) := hide (by
    refine Or.inl ⟨?_, rfl⟩; rw [growP_two (t := u) (show twoK z.pl.1 = true by rw [show z.pl.1 = z.k from rfl, hk]; decide) hu hbare, if_neg (fun h => hB h.1)])
  have hnt : (n : Int) = (ts.length : Int) := by omega
  have dB : (z.B != (ts.length : Int) - 1) = true := by simp [hB]
  have dk1 : (z.k == 1) = false := by rw [hk]; rfl
  have dk2 : (z.k == 2) = false := by rw [hk]; rfl
  have dk3 : (z.k == 3) = false := by rw [hk]; rfl
  have dk4 : (z.k == 4) = true := by rw [hk]; rfl
  have dk5 : (z.k == 5) = false := by rw [hk]; rfl
  have dk6 : (z.k == 6) = false := by rw [hk]; rfl
  have dk7 : (z.k == 7) = false := by rw [hk]; rfl
  have dk8 : (z.k == 8) = false := by rw [hk]; rfl
  have hpos : 0 < ts.length := by
    cases ts with
    | nil => cases hu
    | cons t r => simp
  have hnz : ((ts.length : Int) == 0) = false := beq_eq_false_iff_ne.2 (by omega)
  have hzn : z.n.size = 0 ∧ z.m = 0 := hz0
  have e1 := emp_t hzn.1
  have e2 : decide ((0 : Int) < (z.m : Int)) = false := by simp; omega
  have e2' : ¬ 0 < z.m := by omega
  have hai : ts[ts.length - 1]? = some u := by rw [← List.getLast?_eq_getElem?]; exact hu
  have hlt : ts.length - 1 < (ts.map qT).length := by rw [List.length_map]; omega
  obtain ⟨bq, oq, ha, hbl, x0, x1⟩ := hrow.up hlt
  have hgu : (ts.map qT)[ts.length - 1] = qT u := by
    rw [List.getElem_map]
    have := List.getElem?_eq_some_iff.1 hai
    rw [this.2]
  rw [hgu] at x0 x1
  subst ha
  have i0 : (0 : Int) ≤ (ts.length : Int) - 1 := by omega
  have i1 : (ts.length : Int) - 1 < (ts.length : Int) := by omega
  have hix : ((ts.length : Int) - 1).toNat = ts.length - 1 := by omega
  clear hk hu hbare hz0 hzn hai hlt hgu hrow hB
  have GG := g0_of w z
  go_enter Tryz.func134, Tryz.ntmps134
  go_upto_region 1 with fail
  generalize (w.alloc (bxNd z)).alloc zq = W at GG x0 x1 ⊢
  obtain ⟨c0, c1, c2, c3, c4⟩ := GG.bn
  obtain ⟨q0, q1, f0, f1⟩ : _ ∧ _ ∧ _ ∧ _ := ⟨GG.q0, GG.q1, GG.f0, GG.f1⟩
  have y0 := cell_on GG.bel x0
  have y1 := cell_on GG.bel x1
  have hbx := below_new W (.cells #[.int .i64 (u.1 : Int), .int .i64 (u.2 : Int)] 129)
  have hnw := heap_alloc_new W (.cells #[.int .i64 (u.1 : Int), .int .i64 (u.2 : Int)] 129)
  have G1 := GG.on hbx
  have v0 : (W.alloc (.cells #[.int .i64 (u.1 : Int), .int .i64 (u.2 : Int)] 129)).cell? ⟨W.heap.size, 0, none⟩ = some (.int .i64 (u.1 : Int)) := by rw [Lib.cell_of_heap hnw]; rfl
  have v1 : (W.alloc (.cells #[.int .i64 (u.1 : Int), .int .i64 (u.2 : Int)] 129)).cell? ⟨W.heap.size, 1, none⟩ = some (.int .i64 (u.2 : Int)) := by rw [Lib.cell_of_heap hnw]; rfl
  have hne : W.heap.size ≠ w.heap.size + 1 := by have := GG.lt; omega
  have hne' : w.heap.size + 1 ≠ W.heap.size := by have := GG.lt; omega
  have hne2 : w.heap.size ≠ w.heap.size + 1 := by omega
  clear x0 x1
  go_upto_region 7 with fail
  clear c0 c1 c2 c3 c4 q0 q1 f0 f1 y0 y1 hnw hbx
  generalize W.alloc (.cells #[.int .i64 (u.1 : Int), .int .i64 (u.2 : Int)] 129) = W1 at G1 v0 v1 ⊢
  obtain ⟨c0, c1, c2, c3, c4⟩ := G1.bn
  obtain ⟨q0, q1, f0, f1⟩ : _ ∧ _ ∧ _ ∧ _ := ⟨G1.q0, G1.q1, G1.f0, G1.f1⟩
  obtain ⟨tb, t0, t1⟩ := G1.told 0 0
  go_wp2_with fail
  first
  | (refine bodyPost_ret (v := .tuple #[.agg #[.int .i64 0, .int .i64 0], .bool false]) (by simp [results, Tryz.results134, go_sem, t0, t1]) rfl ?_
     exact ⟨GrowQ.of (unhide HR), tb⟩)
  | (refine bodyPost_ret (v := .tuple #[.agg #[.int .i64 0, .int .i64 0], .bool false]) (by simp [results, Tryz.results134, go_sem, q0, q1]) rfl ?_
     exact ⟨GrowQ.of (unhide HR), G1.bel⟩)
set_option maxHeartbeats 4000000 in
set_option maxRecDepth 100000 in
theorem grow_4A (a : Option Addr) (n c : Nat) (ts : List Tr) (z : Nz) (w : World) (hn : ts.length ≤ 20000) (hl : n ≤ ts.length) (hl2 : ts.length ≤ n) (hk : z.k = 4) (u : Tr) (hu : ts.getLast? = some u) (hbare : z.pl.2.1 = noA) (hz0 : z.n.size = 0 ∧ z.m = 0) (hrow : RowQ w a (ts.map qT)) (_hub : u.2 ≤ 20000) (_hua : u.1 ≤ 20000) (hB : z.B = (ts.length : Int) - 1) (hA : z.A ≠ (u.1 : Int) - 1) :
    Calls Tryz.prog 134 #[.slice a n c, aggN z] w fun e w' => GrowQ ts z.pl e ∧ Below w.heap.size w w' := by
  have HR : Hid (GrowR ts z.pl (0) (0) false) := hide (by
    refine Or.inl ⟨?_, rfl⟩; rw [growP_two (t := u) (show twoK z.pl.1 = true by rw [show z.pl.1 = z.k from rfl, hk]; decide) hu hbare, if_neg (fun h => hA h.2.1)])
  have hnt : (n : Int) = (ts.length : Int) := by omega
  have dB : (z.B != (ts.length : Int) - 1) = false := by simp [hB]
  have dA : (z.A != (u.1 : Int) - 1) = true := by simp [hA]
  have dk1 : (z.k == 1) = false := by rw [hk]; rfl
  have dk2 : (z.k == 2) = false := by rw [hk]; rfl
  have dk3 : (z.k == 3) = false := by rw [hk]; rfl
  have dk4 : (z.k == 4) = true := by rw [hk]; rfl
  have dk5 : (z.k == 5) = false := by rw [hk]; rfl
  have dk6 : (z.k == 6) = false := by rw [hk]; rfl
  have dk7 : (z.k == 7) = false := by rw [hk]; rfl
  have dk8 : (z.k == 8) = false := by rw [hk]; rfl
  have hpos : 0 < ts.length := by
    cases ts with
    | nil => cases hu
    | cons t r => simp
  have hnz : ((ts.length : Int) == 0) = false := beq_eq_false_iff_ne.2 (by omega)
  have hzn : z.n.size = 0 ∧ z.m = 0 := hz0
  have e1 := emp_t hzn.1
  have e2 : decide ((0 : Int) < (z.m : Int)) = false := by simp; omega
  have e2' : ¬ 0 < z.m := by omega
  have hai : ts[ts.length - 1]? = some u := by rw [← List.getLast?_eq_getElem?]; exact hu
  have hlt : ts.length - 1 < (ts.map qT).length := by rw [List.length_map]; omega
  obtain ⟨bq, oq, ha, hbl, x0, x1⟩ := hrow.up hlt
  have hgu : (ts.map qT)[ts.length - 1] = qT u := by
    rw [List.getElem_map]
    have := List.getElem?_eq_some_iff.1 hai
    rw [this.2]
  rw [hgu] at x0 x1
  subst ha
  have i0 : (0 : Int) ≤ (ts.length : Int) - 1 := by omega
  have i1 : (ts.length : Int) - 1 < (ts.length : Int) := by omega
  have hix : ((ts.length : Int) - 1).toNat = ts.length - 1 := by omega
  clear hk hu hbare hz0 hzn hai hlt hgu hrow hB hA
  have GG := g0_of w z
  go_enter Tryz.func134, Tryz.ntmps134
  go_upto_region 1 with fail
  generalize (w.alloc (bxNd z)).alloc zq = W at GG x0 x1 ⊢
  obtain ⟨c0, c1, c2, c3, c4⟩ := GG.bn
  obtain ⟨q0, q1, f0, f1⟩ : _ ∧ _ ∧ _ ∧ _ := ⟨GG.q0, GG.q1, GG.f0, GG.f1⟩
  have y0 := cell_on GG.bel x0
  have y1 := cell_on GG.bel x1
  have hbx := below_new W (.cells #[.int .i64 (u.1 : Int), .int .i64 (u.2 : Int)] 129)
  have hnw := heap_alloc_new W (.cells #[.int .i64 (u.1 : Int), .int .i64 (u.2 : Int)] 129)
  have G1 := GG.on hbx
  have v0 : (W.alloc (.cells #[.int .i64 (u.1 : Int), .int .i64 (u.2 : Int)] 129)).cell? ⟨W.heap.size, 0, none⟩ = some (.int .i64 (u.1 : Int)) := by rw [Lib.cell_of_heap hnw]; rfl
  have v1 : (W.alloc (.cells #[.int .i64 (u.1 : Int), .int .i64 (u.2 : Int)] 129)).cell? ⟨W.heap.size, 1, none⟩ = some (.int .i64 (u.2 : Int)) := by rw [Lib.cell_of_heap hnw]; rfl
  have hne : W.heap.size ≠ w.heap.size + 1 := by have := GG.lt; omega
  have hne' : w.heap.size + 1 ≠ W.heap.size := by have := GG.lt; omega
  have hne2 : w.heap.size ≠ w.heap.size + 1 := by omega
  clear x0 x1
  go_upto_region 7 with fail
  clear c0 c1 c2 c3 c4 q0 q1 f0 f1 y0 y1 hnw hbx
  generalize W.alloc (.cells #[.int .i64 (u.1 : Int), .int .i64 (u.2 : Int)] 129) = W1 at G1 v0 v1 ⊢
  obtain ⟨c0, c1, c2, c3, c4⟩ := G1.bn
  obtain ⟨q0, q1, f0, f1⟩ : _ ∧ _ ∧ _ ∧ _ := ⟨G1.q0, G1.q1, G1.f0, G1.f1⟩
  obtain ⟨tb, t0, t1⟩ := G1.told 0 0
  go_wp2_with fail
  first
  | (refine bodyPost_ret (v := .tuple #[.agg #[.int .i64 0, .int .i64 0], .bool false]) (by simp [results, Tryz.results134, go_sem, t0, t1]) rfl ?_
     exact ⟨GrowQ.of (unhide HR), tb⟩)
  | (refine bodyPost_ret (v := .tuple #[.agg #[.int .i64 0, .int .i64 0], .bool false]) (by simp [results, Tryz.results134, go_sem, q0, q1]) rfl ?_
     exact ⟨GrowQ.of (unhide HR), G1.bel⟩)
set_option maxHeartbeats 4000000 in
set_option maxRecDepth 100000 in
theorem grow_4N (a : Option Addr) (n c : Nat) (ts : List Tr) (z : Nz) (w : World) (hn : ts.length ≤ 20000) (hl : n ≤ ts.length) (hl2 : ts.length ≤ n) (hk : z.k = 4) (u : Tr) (hu : ts.getLast? = some u) (hbare : z.pl.2.1 = noA) (hz0 : z.n.size = 0 ∧ z.m = 0) (hrow : RowQ w a (ts.map qT)) (_hub : u.2 ≤ 20000) (_hua : u.1 ≤ 20000) (hB : z.B = (ts.length : Int) - 1) (hA : z.A = (u.1 : Int) - 1) (hN : u.1 = 0) :
    Calls Tryz.prog 134 #[.slice a n c, aggN z] w fun e w' => GrowQ ts z.pl e ∧ Below w.heap.size w w' := by
  have HR : Hid (GrowR ts z.pl (0) (0) false) := hide (by
    refine Or.inl ⟨?_, rfl⟩; rw [growP_two (t := u) (show twoK z.pl.1 = true by rw [show z.pl.1 = z.k from rfl, hk]; decide) hu hbare, if_neg (fun h => (by have h1 := h.2.2; rw [show z.pl.2.2.1 = z.A from rfl, hA, hN] at h1; exact absurd h1 (by decide)))])
  have hnt : (n : Int) = (ts.length : Int) := by omega
  have dB : (z.B != (ts.length : Int) - 1) = false := by simp [hB]
  have dA : (z.A != (u.1 : Int) - 1) = false := by simp [hA]
  have dN : decide (z.A < 0) = true := by rw [hA, hN]; rfl
  have dN2 : z.A < 0 := by rw [hA, hN]; decide
  have dk1 : (z.k == 1) = false := by rw [hk]; rfl
  have dk2 : (z.k == 2) = false := by rw [hk]; rfl
  have dk3 : (z.k == 3) = false := by rw [hk]; rfl
  have dk4 : (z.k == 4) = true := by rw [hk]; rfl
  have dk5 : (z.k == 5) = false := by rw [hk]; rfl
  have dk6 : (z.k == 6) = false := by rw [hk]; rfl
  have dk7 : (z.k == 7) = false := by rw [hk]; rfl
  have dk8 : (z.k == 8) = false := by rw [hk]; rfl
  have hpos : 0 < ts.length := by
    cases ts with
    | nil => cases hu
    | cons t r => simp
  have hnz : ((ts.length : Int) == 0) = false := beq_eq_false_iff_ne.2 (by omega)
  have hzn : z.n.size = 0 ∧ z.m = 0 := hz0
  have e1 := emp_t hzn.1
  have e2 : decide ((0 : Int) < (z.m : Int)) = false := by simp; omega
  have e2' : ¬ 0 < z.m := by omega
  have hai : ts[ts.length - 1]? = some u := by rw [← List.getLast?_eq_getElem?]; exact hu
  have hlt : ts.length - 1 < (ts.map qT).length := by rw [List.length_map]; omega
  obtain ⟨bq, oq, ha, hbl, x0, x1⟩ := hrow.up hlt
  have hgu : (ts.map qT)[ts.length - 1] = qT u := by
    rw [List.getElem_map]
    have := List.getElem?_eq_some_iff.1 hai
    rw [this.2]
  rw [hgu] at x0 x1
  subst ha
  have i0 : (0 : Int) ≤ (ts.length : Int) - 1 := by omega
  have i1 : (ts.length : Int) - 1 < (ts.length : Int) := by omega
  have hix : ((ts.length : Int) - 1).toNat = ts.length - 1 := by omega
  clear hk hu hbare hz0 hzn hai hlt hgu hrow hB hA hN
  have GG := g0_of w z
  go_enter Tryz.func134, Tryz.ntmps134
  go_upto_region 1 with fail
  generalize (w.alloc (bxNd z)).alloc zq = W at GG x0 x1 ⊢
  obtain ⟨c0, c1, c2, c3, c4⟩ := GG.bn
  obtain ⟨q0, q1, f0, f1⟩ : _ ∧ _ ∧ _ ∧ _ := ⟨GG.q0, GG.q1, GG.f0, GG.f1⟩
  have y0 := cell_on GG.bel x0
  have y1 := cell_on GG.bel x1
  have hbx := below_new W (.cells #[.int .i64 (u.1 : Int), .int .i64 (u.2 : Int)] 129)
  have hnw := heap_alloc_new W (.cells #[.int .i64 (u.1 : Int), .int .i64 (u.2 : Int)] 129)
  have G1 := GG.on hbx
  have v0 : (W.alloc (.cells #[.int .i64 (u.1 : Int), .int .i64 (u.2 : Int)] 129)).cell? ⟨W.heap.size, 0, none⟩ = some (.int .i64 (u.1 : Int)) := by rw [Lib.cell_of_heap hnw]; rfl
  have v1 : (W.alloc (.cells #[.int .i64 (u.1 : Int), .int .i64 (u.2 : Int)] 129)).cell? ⟨W.heap.size, 1, none⟩ = some (.int .i64 (u.2 : Int)) := by rw [Lib.cell_of_heap hnw]; rfl
  have hne : W.heap.size ≠ w.heap.size + 1 := by have := GG.lt; omega
  have hne' : w.heap.size + 1 ≠ W.heap.size := by have := GG.lt; omega
  have hne2 : w.heap.size ≠ w.heap.size + 1 := by omega
  clear x0 x1
  go_upto_region 7 with fail
  clear c0 c1 c2 c3 c4 q0 q1 f0 f1 y0 y1 hnw hbx
  generalize W.alloc (.cells #[.int .i64 (u.1 : Int), .int .i64 (u.2 : Int)] 129) = W1 at G1 v0 v1 ⊢
  obtain ⟨c0, c1, c2, c3, c4⟩ := G1.bn
  obtain ⟨q0, q1, f0, f1⟩ : _ ∧ _ ∧ _ ∧ _ := ⟨G1.q0, G1.q1, G1.f0, G1.f1⟩
  obtain ⟨tb, t0, t1⟩ := G1.told 0 0
  go_wp2_with fail
  first
  | (refine bodyPost_ret (v := .tuple #[.agg #[.int .i64 0, .int .i64 0], .bool false]) (by simp [results, Tryz.results134, go_sem, t0, t1]) rfl ?_
     exact ⟨GrowQ.of (unhide HR), tb⟩)
  | (refine bodyPost_ret (v := .tuple #[.agg #[.int .i64 0, .int .i64 0], .bool false]) (by simp [results, Tryz.results134, go_sem, q0, q1]) rfl ?_
     exact ⟨GrowQ.of (unhide HR), G1.bel⟩)
set_option maxHeartbeats 4000000 in
set_option maxRecDepth 100000 in
theorem grow_4y (a : Option Addr) (n c : Nat) (ts : List Tr) (z : Nz) (w : World) (hn : ts.length ≤ 20000) (hl : n ≤ ts.length) (hl2 : ts.length ≤ n) (hk : z.k = 4) (u : Tr) (hu : ts.getLast? = some u) (hbare : z.pl.2.1 = noA) (hz0 : z.n.size = 0 ∧ z.m = 0) (hrow : RowQ w a (ts.map qT)) (_hub : u.2 ≤ 20000) (_hua : u.1 ≤ 20000) (hB : z.B = (ts.length : Int) - 1) (hA : z.A = (u.1 : Int) - 1) (hN : 1 ≤ u.1) (v : Tr) (hv : ts[u.1 - 1]? = some v) (hvb : v.2 ≤ 20000) :
    Calls Tryz.prog 134 #[.slice a n c, aggN z] w fun e w' => GrowQ ts z.pl e ∧ Below w.heap.size w w' := by
  have HR : Hid (GrowR ts z.pl ((v.1 : Int)) (max (v.2 : Int) (u.2 : Int) + 1) true) := hide (by
    refine Or.inr ⟨(v.1, max v.2 u.2 + 1), ?_, rfl, rfl, by simp only; omega⟩; rw [growP_two (t := u) (show twoK z.pl.1 = true by rw [show z.pl.1 = z.k from rfl, hk]; decide) hu hbare, if_pos ⟨hB, hA, by rw [show z.pl.2.2.1 = z.A from rfl, hA]; omega⟩, show z.pl.2.2.1.toNat = u.1 - 1 by (rw [show z.pl.2.2.1 = z.A from rfl, hA]; omega), hv]; rfl)
  have hnt : (n : Int) = (ts.length : Int) := by omega
  have dB : (z.B != (ts.length : Int) - 1) = false := by simp [hB]
  have dA : (z.A != (u.1 : Int) - 1) = false := by simp [hA]
  have dN2 : ¬ z.A < 0 := by rw [hA]; omega
  have dN : decide (z.A < 0) = false := decide_eq_false dN2
  have hvl : u.1 - 1 < ts.length := (List.getElem?_eq_some_iff.1 hv).1
  have dN3 : (0 : Int) ≤ z.A := by omega
  have dN4 : z.A < (ts.length : Int) := by rw [hA]; omega
  have dN5 : z.A.toNat = u.1 - 1 := by rw [hA]; omega
  have dk1 : (z.k == 1) = false := by rw [hk]; rfl
  have dk2 : (z.k == 2) = false := by rw [hk]; rfl
  have dk3 : (z.k == 3) = false := by rw [hk]; rfl
  have dk4 : (z.k == 4) = true := by rw [hk]; rfl
  have dk5 : (z.k == 5) = false := by rw [hk]; rfl
  have dk6 : (z.k == 6) = false := by rw [hk]; rfl
  have dk7 : (z.k == 7) = false := by rw [hk]; rfl
  have dk8 : (z.k == 8) = false := by rw [hk]; rfl
  have hpos : 0 < ts.length := by
    cases ts with
    | nil => cases hu
    | cons t r => simp
  have hnz : ((ts.length : Int) == 0) = false := beq_eq_false_iff_ne.2 (by omega)
  have hzn : z.n.size = 0 ∧ z.m = 0 := hz0
  have e1 := emp_t hzn.1
  have e2 : decide ((0 : Int) < (z.m : Int)) = false := by simp; omega
  have e2' : ¬ 0 < z.m := by omega
  have hai : ts[ts.length - 1]? = some u := by rw [← List.getLast?_eq_getElem?]; exact hu
  have hlt : ts.length - 1 < (ts.map qT).length := by rw [List.length_map]; omega
  obtain ⟨bq, oq, ha, hbl, x0, x1⟩ := hrow.up hlt
  have hgu : (ts.map qT)[ts.length - 1] = qT u := by
    rw [List.getElem_map]
    have := List.getElem?_eq_some_iff.1 hai
    rw [this.2]
  rw [hgu] at x0 x1
  obtain ⟨bq2, oq2, ha2, -, w0', w1'⟩ := hrow.up (i := u.1 - 1) (by rw [List.length_map]; exact hvl)
  rw [ha] at ha2
  cases ha2
  have hgv : (ts.map qT)[u.1 - 1]'(by rw [List.length_map]; exact hvl) = qT v := by
    rw [List.getElem_map]
    have := List.getElem?_eq_some_iff.1 hv
    rw [this.2]
  rw [hgv] at w0' w1'
  subst ha
  have i0 : (0 : Int) ≤ (ts.length : Int) - 1 := by omega
  have i1 : (ts.length : Int) - 1 < (ts.length : Int) := by omega
  have hix : ((ts.length : Int) - 1).toNat = ts.length - 1 := by omega
  clear hk hu hbare hz0 hzn hai hlt hgu hrow hB hA hN hvl hv hgv
  have GG := g0_of w z
  go_enter Tryz.func134, Tryz.ntmps134
  go_upto_region 1 with fail
  generalize (w.alloc (bxNd z)).alloc zq = W at GG x0 x1 w0' w1' ⊢
  obtain ⟨c0, c1, c2, c3, c4⟩ := GG.bn
  obtain ⟨q0, q1, f0, f1⟩ : _ ∧ _ ∧ _ ∧ _ := ⟨GG.q0, GG.q1, GG.f0, GG.f1⟩
  have y0 := cell_on GG.bel x0
  have y1 := cell_on GG.bel x1
  have y2 := cell_on GG.bel w0'
  have y3 := cell_on GG.bel w1'
  clear w0' w1'
  have hbx := below_new W (.cells #[.int .i64 (u.1 : Int), .int .i64 (u.2 : Int)] 129)
  have hnw := heap_alloc_new W (.cells #[.int .i64 (u.1 : Int), .int .i64 (u.2 : Int)] 129)
  have G1 := GG.on hbx
  have v0 : (W.alloc (.cells #[.int .i64 (u.1 : Int), .int .i64 (u.2 : Int)] 129)).cell? ⟨W.heap.size, 0, none⟩ = some (.int .i64 (u.1 : Int)) := by rw [Lib.cell_of_heap hnw]; rfl
  have v1 : (W.alloc (.cells #[.int .i64 (u.1 : Int), .int .i64 (u.2 : Int)] 129)).cell? ⟨W.heap.size, 1, none⟩ = some (.int .i64 (u.2 : Int)) := by rw [Lib.cell_of_heap hnw]; rfl
  have hne : W.heap.size ≠ w.heap.size + 1 := by have := GG.lt; omega
  have hne' : w.heap.size + 1 ≠ W.heap.size := by have := GG.lt; omega
  have hne2 : w.heap.size ≠ w.heap.size + 1 := by omega
  have y4 := cell_on hbx y2
  have y5 := cell_on hbx y3
  clear x0 x1
  go_upto_region 7 with fail
  clear c0 c1 c2 c3 c4 q0 q1 f0 f1 y0 y1 hnw y2 y3
  generalize W.alloc (.cells #[.int .i64 (u.1 : Int), .int .i64 (u.2 : Int)] 129) = W1 at G1 v0 v1 y4 y5 hbx ⊢
  obtain ⟨c0, c1, c2, c3, c4⟩ := G1.bn
  have hbx2 := below_new W1 (.cells #[.int .i64 (v.1 : Int), .int .i64 (v.2 : Int)] 129)
  have hnw2 := heap_alloc_new W1 (.cells #[.int .i64 (v.1 : Int), .int .i64 (v.2 : Int)] 129)
  have G2 := G1.on hbx2
  have z0 : (W1.alloc (.cells #[.int .i64 (v.1 : Int), .int .i64 (v.2 : Int)] 129)).cell? ⟨W1.heap.size, 0, none⟩ = some (.int .i64 (v.1 : Int)) := by rw [Lib.cell_of_heap hnw2]; rfl
  have z1 : (W1.alloc (.cells #[.int .i64 (v.1 : Int), .int .i64 (v.2 : Int)] 129)).cell? ⟨W1.heap.size, 1, none⟩ = some (.int .i64 (v.2 : Int)) := by rw [Lib.cell_of_heap hnw2]; rfl
  have v2 := cell_on hbx2 v0
  have v3 := cell_on hbx2 v1
  clear hbx
  go_upto_region 20 with fail
  clear c0 c1 c2 c3 c4 y4 y5 v0 v1 hbx2 hnw2
  generalize W1.alloc (.cells #[.int .i64 (v.1 : Int), .int .i64 (v.2 : Int)] 129) = W2 at G2 z0 z1 v2 v3 ⊢
  obtain ⟨c0, c1, c2, c3, c4⟩ := G2.bn
  obtain ⟨q0, q1, f0, f1⟩ : _ ∧ _ ∧ _ ∧ _ := ⟨G2.q0, G2.q1, G2.f0, G2.f1⟩
  obtain ⟨tb, t0, t1⟩ := G2.told (v.1 : Int) (max (v.2 : Int) (u.2 : Int) + 1)
  go_wp2_with fail
  refine bodyPost_ret (v := .tuple #[.agg #[.int .i64 (v.1 : Int), .int .i64 (max (v.2 : Int) (u.2 : Int) + 1)], .bool true]) (by simp [results, Tryz.results134, go_sem, t0, t1]) rfl ?_
  exact ⟨GrowQ.of (unhide HR), tb⟩
set_option maxHeartbeats 4000000 in
set_option maxRecDepth 100000 in
theorem grow_8B (a : Option Addr) (n c : Nat) (ts : List Tr) (z : Nz) (w : World) (hn : ts.length ≤ 20000) (hl : n ≤ ts.length) (hl2 : ts.length ≤ n) (hk : z.k = 8) (u : Tr) (hu : ts.getLast? = some u) (hbare : z.pl.2.1 = noA) (hz0 : z.n.size = 0 ∧ z.m = 0) (hrow : RowQ w a (ts.map qT)) (_hub : u.2 ≤ 20000) (_hua : u.1 ≤ 20000) (hB : z.B ≠ (ts.length : Int) - 1) :
    Calls Tryz.prog 134 #[.slice a n c, aggN z] w fun e w' => GrowQ ts z.pl e ∧ Below w.heap.size w w' := by
  have HR : Hid (GrowR ts z.pl (0) (0) false) := hide (by
    refine Or.inl ⟨?_, rfl⟩; rw [growP_two (t := u) (show twoK z.pl.1 = true by rw [show z.pl.1 = z.k from rfl, hk]; decide) hu hbare, if_neg (fun h => hB h.1)])
  have hnt : (n : Int) = (ts.length : Int) := by omega
  have dB : (z.B != (ts.length : Int) - 1) = true := by simp [hB]
  have dk1 : (z.k == 1) = false := by rw [hk]; rfl
  have dk2 : (z.k == 2) = false := by rw [hk]; rfl
  have dk3 : (z.k == 3) = false := by rw [hk]; rfl
  have dk4 : (z.k == 4) = false := by rw [hk]; rfl
  have dk5 : (z.k == 5) = false := by rw [hk]; rfl
  have dk6 : (z.k == 6) = false := by rw [hk]; rfl
  have dk7 : (z.k == 7) = false := by rw [hk]; rfl
  have dk8 : (z.k == 8) = true := by rw [hk]; rfl
  have hpos : 0 < ts.length := by
    cases ts with
    | nil => cases hu
    | cons t r => simp
  have hnz : ((ts.length : Int) == 0) = false := beq_eq_false_iff_ne.2 (by omega)
  have hzn : z.n.size = 0 ∧ z.m = 0 := hz0
  have e1 := emp_t hzn.1
  have e2 : decide ((0 : Int) < (z.m : Int)) = false := by simp; omega
  have e2' : ¬ 0 < z.m := by omega
  have hai : ts[ts.length - 1]? = some u := by rw [← List.getLast?_eq_getElem?]; exact hu
  have hlt : ts.length - 1 < (ts.map qT).length := by rw [List.length_map]; omega
  obtain ⟨bq, oq, ha, hbl, x0, x1⟩ := hrow.up hlt
  have hgu : (ts.map qT)[ts.length - 1] = qT u := by
    rw [List.getElem_map]
    have := List.getElem?_eq_some_iff.1 hai
    rw [this.2]
  rw [hgu] at x0 x1
  subst ha
  have i0 : (0 : Int) ≤ (ts.length : Int) - 1 := by omega
  have i1 : (ts.length : Int) - 1 < (ts.length : Int) := by omega
  have hix : ((ts.length : Int) - 1).toNat = ts.length - 1 := by omega
  clear hk hu hbare hz0 hzn hai hlt hgu hrow hB
  have GG := g0_of w z
  go_enter Tryz.func134, Tryz.ntmps134
  go_upto_region 1 with fail
  generalize (w.alloc (bxNd z)).alloc zq = W at GG x0 x1 ⊢
  obtain ⟨c0, c1, c2, c3, c4⟩ := GG.bn
  obtain ⟨q0, q1, f0, f1⟩ : _ ∧ _ ∧ _ ∧ _ := ⟨GG.q0, GG.q1, GG.f0, GG.f1⟩
  have y0 := cell_on GG.bel x0
  have y1 := cell_on GG.bel x1
  have hbx := below_new W (.cells #[.int .i64 (u.1 : Int), .int .i64 (u.2 : Int)] 129)
  have hnw := heap_alloc_new W (.cells #[.int .i64 (u.1 : Int), .int .i64 (u.2 : Int)] 129)
  have G1 := GG.on hbx
  have v0 : (W.alloc (.cells #[.int .i64 (u.1 : Int), .int .i64 (u.2 : Int)] 129)).cell? ⟨W.heap.size, 0, none⟩ = some (.int .i64 (u.1 : Int)) := by rw [Lib.cell_of_heap hnw]; rfl
  have v1 : (W.alloc (.cells #[.int .i64 (u.1 : Int), .int .i64 (u.2 : Int)] 129)).cell? ⟨W.heap.size, 1, none⟩ = some (.int .i64 (u.2 : Int)) := by rw [Lib.cell_of_heap hnw]; rfl
  have hne : W.heap.size ≠ w.heap.size + 1 := by have := GG.lt; omega
  have hne' : w.heap.size + 1 ≠ W.heap.size := by have := GG.lt; omega
  have hne2 : w.heap.size ≠ w.heap.size + 1 := by omega
  clear x0 x1
  go_upto_region 7 with fail
  clear c0 c1 c2 c3 c4 q0 q1 f0 f1 y0 y1 hnw hbx
  generalize W.alloc (.cells #[.int .i64 (u.1 : Int), .int .i64 (u.2 : Int)] 129) = W1 at G1 v0 v1 ⊢
  obtain ⟨c0, c1, c2, c3, c4⟩ := G1.bn
  obtain ⟨q0, q1, f0, f1⟩ : _ ∧ _ ∧ _ ∧ _ := ⟨G1.q0, G1.q1, G1.f0, G1.f1⟩
  obtain ⟨tb, t0, t1⟩ := G1.told 0 0
  go_wp2_with fail
  first
  | (refine bodyPost_ret (v := .tuple #[.agg #[.int .i64 0, .int .i64 0], .bool false]) (by simp [results, Tryz.results134, go_sem, t0, t1]) rfl ?_
     exact ⟨GrowQ.of (unhide HR), tb⟩)
  | (refine bodyPost_ret (v := .tuple #[.agg #[.int .i64 0, .int .i64 0], .bool false]) (by simp [results, Tryz.results134, go_sem, q0, q1]) rfl ?_
     exact ⟨GrowQ.of (unhide HR), G1.bel⟩)
set_option maxHeartbeats 4000000 in
set_option maxRecDepth 100000 in
theorem grow_8A (a : Option Addr) (n c : Nat) (ts : List Tr) (z : Nz) (w : World) (hn : ts.length ≤ 20000) (hl : n ≤ ts.length) (hl2 : ts.length ≤ n) (hk : z.k = 8) (u : Tr) (hu : ts.getLast? = some u) (hbare : z.pl.2.1 = noA) (hz0 : z.n.size = 0 ∧ z.m = 0) (hrow : RowQ w a (ts.map qT)) (_hub : u.2 ≤ 20000) (_hua : u.1 ≤ 20000) (hB : z.B = (ts.length : Int) - 1) (hA : z.A ≠ (u.1 : Int) - 1) :
    Calls Tryz.prog 134 #[.slice a n c, aggN z] w fun e w' => GrowQ ts z.pl e ∧ Below w.heap.size w w' := by
  have HR : Hid (GrowR ts z.pl (0) (0) false) := hide (by
    refine Or.inl ⟨?_, rfl⟩; rw [growP_two (t := u) (show twoK z.pl.1 = true by rw [show z.pl.1 = z.k from rfl, hk]; decide) hu hbare, if_neg (fun h => hA h.2.1)])
  have hnt : (n : Int) = (ts.length : Int) := by omega
  have dB : (z.B != (ts.length : Int) - 1) = false := by simp [hB]
  have dA : (z.A != (u.1 : Int) - 1) = true := by simp [hA]
  have dk1 : (z.k == 1) = false := by rw [hk]; rfl
  have dk2 : (z.k == 2) = false := by rw [hk]; rfl
  have dk3 : (z.k == 3) = false := by rw [hk]; rfl
  have dk4 : (z.k == 4) = false := by rw [hk]; rfl
  have dk5 : (z.k == 5) = false := by rw [hk]; rfl
  have dk6 : (z.k == 6) = false := by rw [hk]; rfl
  have dk7 : (z.k == 7) = false := by rw [hk]; rfl
  have dk8 : (z.k == 8) = true := by rw [hk]; rfl
  have hpos : 0 < ts.length := by
    cases ts with
    | nil => cases hu
    | cons t r => simp
  have hnz : ((ts.length : Int) == 0) = false := beq_eq_false_iff_ne.2 (by omega)
  have hzn : z.n.size = 0 ∧ z.m = 0 := hz0
  have e1 := emp_t hzn.1
  have e2 : decide ((0 : Int) < (z.m : Int)) = false := by simp; omega
  have e2' : ¬ 0 < z.m := by omega
  have hai : ts[ts.length - 1]? = some u := by rw [← List.getLast?_eq_getElem?]; exact hu
  have hlt : ts.length - 1 < (ts.map qT).length := by rw [List.length_map]; omega
  obtain ⟨bq, oq, ha, hbl, x0, x1⟩ := hrow.up hlt
  have hgu : (ts.map qT)[ts.length - 1] = qT u := by
    rw [List.getElem_map]
    have := List.getElem?_eq_some_iff.1 hai
    rw [this.2]
  rw [hgu] at x0 x1
  subst ha
  have i0 : (0 : Int) ≤ (ts.length : Int) - 1 := by omega
  have i1 : (ts.length : Int) - 1 < (ts.length : Int) := by omega
  have hix : ((ts.length : Int) - 1).toNat = ts.length - 1 := by omega
  clear hk hu hbare hz0 hzn hai hlt hgu hrow hB hA
  have GG := g0_of w z
  go_enter Tryz.func134, Tryz.ntmps134
  go_upto_region 1 with fail
  generalize (w.alloc (bxNd z)).alloc zq = W at GG x0 x1 ⊢
  obtain ⟨c0, c1, c2, c3, c4⟩ := GG.bn
  obtain ⟨q0, q1, f0, f1⟩ : _ ∧ _ ∧ _ ∧ _ := ⟨GG.q0, GG.q1, GG.f0, GG.f1⟩
  have y0 := cell_on GG.bel x0
  have y1 := cell_on GG.bel x1
  have hbx := below_new W (.cells #[.int .i64 (u.1 : Int), .int .i64 (u.2 : Int)] 129)
  have hnw := heap_alloc_new W (.cells #[.int .i64 (u.1 : Int), .int .i64 (u.2 : Int)] 129)
  have G1 := GG.on hbx
  have v0 : (W.alloc (.cells #[.int .i64 (u.1 : Int), .int .i64 (u.2 : Int)] 129)).cell? ⟨W.heap.size, 0, none⟩ = some (.int .i64 (u.1 : Int)) := by rw [Lib.cell_of_heap hnw]; rfl
  have v1 : (W.alloc (.cells #[.int .i64 (u.1 : Int), .int .i64 (u.2 : Int)] 129)).cell? ⟨W.heap.size, 1, none⟩ = some (.int .i64 (u.2 : Int)) := by rw [Lib.cell_of_heap hnw]; rfl
  have hne : W.heap.size ≠ w.heap.size + 1 := by have := GG.lt; omega
  have hne' : w.heap.size + 1 ≠ W.heap.size := by have := GG.lt; omega
  have hne2 : w.heap.size ≠ w.heap.size + 1 := by omega
  clear x0 x1
  go_upto_region 7 with fail
  clear c0 c1 c2 c3 c4 q0 q1 f0 f1 y0 y1 hnw hbx
  generalize W.alloc (.cells #[.int .i64 (u.1 : Int), .int .i64 (u.2 : Int)] 129) = W1 at G1 v0 v1 ⊢
  obtain ⟨c0, c1, c2, c3, c4⟩ := G1.bn
  obtain ⟨q0, q1, f0, f1⟩ : _ ∧ _ ∧ _ ∧ _ := ⟨G1.q0, G1.q1, G1.f0, G1.f1⟩
  obtain ⟨tb, t0, t1⟩ := G1.told 0 0
  go_wp2_with fail
  first
  | (refine bodyPost_ret (v := .tuple #[.agg #[.int .i64 0, .int .i64 0], .bool false]) (by simp [results, Tryz.results134, go_sem, t0, t1]) rfl ?_
     exact ⟨GrowQ.of (unhide HR), tb⟩)
  | (refine bodyPost_ret (v := .tuple #[.agg #[.int .i64 0, .int .i64 0], .bool false]) (by simp [results, Tryz.results134, go_sem, q0, q1]) rfl ?_
     exact ⟨GrowQ.of (unhide HR), G1.bel⟩)
set_option maxHeartbeats 4000000 in
set_option maxRecDepth 100000 in
theorem grow_8N (a : Option Addr) (n c : Nat) (ts : List Tr) (z : Nz) (w : World) (hn : ts.length ≤ 20000) (hl : n ≤ ts.length) (hl2 : ts.length ≤ n) (hk : z.k = 8) (u : Tr) (hu : ts.getLast? = some u) (hbare : z.pl.2.1 = noA) (hz0 : z.n.size = 0 ∧ z.m = 0) (hrow : RowQ w a (ts.map qT)) (_hub : u.2 ≤ 20000) (_hua : u.1 ≤ 20000) (hB : z.B = (ts.length : Int) - 1) (hA : z.A = (u.1 : Int) - 1) (hN : u.1 = 0) :
    Calls Tryz.prog 134 #[.slice a n c, aggN z] w fun e w' => GrowQ ts z.pl e ∧ Below w.heap.size w w' := by
  have HR : Hid (GrowR ts z.pl (0) (0) false) := hide (by
    refine Or.inl ⟨?_, rfl⟩; rw [growP_two (t := u) (show twoK z.pl.1 = true by rw [show z.pl.1 = z.k from rfl, hk]; decide) hu hbare, if_neg (fun h => (by have h1 := h.2.2; rw [show z.pl.2.2.1 = z.A from rfl, hA, hN] at h1; exact absurd h1 (by decide)))])
  have hnt : (n : Int) = (ts.length : Int) := by omega
  have dB : (z.B != (ts.length : Int) - 1) = false := by simp [hB]
  have dA : (z.A != (u.1 : Int) - 1) = false := by simp [hA]
  have dN : decide (z.A < 0) = true := by rw [hA, hN]; rfl
  have dN2 : z.A < 0 := by rw [hA, hN]; decide
  have dk1 : (z.k == 1) = false := by rw [hk]; rfl
  have dk2 : (z.k == 2) = false := by rw [hk]; rfl
  have dk3 : (z.k == 3) = false := by rw [hk]; rfl
  have dk4 : (z.k == 4) = false := by rw [hk]; rfl
  have dk5 : (z.k == 5) = false := by rw [hk]; rfl
  have dk6 : (z.k == 6) = false := by rw [hk]; rfl
  have dk7 : (z.k == 7) = false := by rw [hk]; rfl
  have dk8 : (z.k == 8) = true := by rw [hk]; rfl
  have hpos : 0 < ts.length := by
    cases ts with
    | nil => cases hu
    | cons t r => simp
  have hnz : ((ts.length : Int) == 0) = false := beq_eq_false_iff_ne.2 (by omega)
  have hzn : z.n.size = 0 ∧ z.m = 0 := hz0
  have e1 := emp_t hzn.1
  have e2 : decide ((0 : Int) < (z.m : Int)) = false := by simp; omega
  have e2' : ¬ 0 < z.m := by omega
  have hai : ts[ts.length - 1]? = some u := by rw [← List.getLast?_eq_getElem?]; exact hu
  have hlt : ts.length - 1 < (ts.map qT).length := by rw [List.length_map]; omega
  obtain ⟨bq, oq, ha, hbl, x0, x1⟩ := hrow.up hlt
  have hgu : (ts.map qT)[ts.length - 1] = qT u := by
    rw [List.getElem_map]
    have := List.getElem?_eq_some_iff.1 hai
    rw [this.2]
  rw [hgu] at x0 x1
  subst ha
  have i0 : (0 : Int) ≤ (ts.length : Int) - 1 := by omega
  have i1 : (ts.length : Int) - 1 < (ts.length : Int) := by omega
  have hix : ((ts.length : Int) - 1).toNat = ts.length - 1 := by omega
  clear hk hu hbare hz0 hzn hai hlt hgu hrow hB hA hN
  have GG := g0_of w z
  go_enter Tryz.func134, Tryz.ntmps134
  go_upto_region 1 with fail
  generalize (w.alloc (bxNd z)).alloc zq = W at GG x0 x1 ⊢
  obtain ⟨c0, c1, c2, c3, c4⟩ := GG.bn
  obtain ⟨q0, q1, f0, f1⟩ : _ ∧ _ ∧ _ ∧ _ := ⟨GG.q0, GG.q1, GG.f0, GG.f1⟩
  have y0 := cell_on GG.bel x0
  have y1 := cell_on GG.bel x1
  have hbx := below_new W (.cells #[.int .i64 (u.1 : Int), .int .i64 (u.2 : Int)] 129)
  have hnw := heap_alloc_new W (.cells #[.int .i64 (u.1 : Int), .int .i64 (u.2 : Int)] 129)
  have G1 := GG.on hbx
  have v0 : (W.alloc (.cells #[.int .i64 (u.1 : Int), .int .i64 (u.2 : Int)] 129)).cell? ⟨W.heap.size, 0, none⟩ = some (.int .i64 (u.1 : Int)) := by rw [Lib.cell_of_heap hnw]; rfl
  have v1 : (W.alloc (.cells #[.int .i64 (u.1 : Int), .int .i64 (u.2 : Int)] 129)).cell? ⟨W.heap.size, 1, none⟩ = some (.int .i64 (u.2 : Int)) := by rw [Lib.cell_of_heap hnw]; rfl
  have hne : W.heap.size ≠ w.heap.size + 1 := by have := GG.lt; omega
  have hne' : w.heap.size + 1 ≠ W.heap.size := by have := GG.lt; omega
  have hne2 : w.heap.size ≠ w.heap.size + 1 := by omega
  clear x0 x1
  go_upto_region 7 with fail
  clear c0 c1 c2 c3 c4 q0 q1 f0 f1 y0 y1 hnw hbx
  generalize W.alloc (.cells #[.int .i64 (u.1 : Int), .int .i64 (u.2 : Int)] 129) = W1 at G1 v0 v1 ⊢
  obtain ⟨c0, c1, c2, c3, c4⟩ := G1.bn
  obtain ⟨q0, q1, f0, f1⟩ : _ ∧ _ ∧ _ ∧ _ := ⟨G1.q0, G1.q1, G1.f0, G1.f1⟩
  obtain ⟨tb, t0, t1⟩ := G1.told 0 0
  go_wp2_with fail
  first
  | (refine bodyPost_ret (v := .tuple #[.agg #[.int .i64 0, .int .i64 0], .bool false]) (by simp [results, Tryz.results134, go_sem, t0, t1]) rfl ?_
     exact ⟨GrowQ.of (unhide HR), tb⟩)
  | (refine bodyPost_ret (v := .tuple #[.agg #[.int .i64 0, .int .i64 0], .bool false]) (by simp [results, Tryz.results134, go_sem, q0, q1]) rfl ?_
     exact ⟨GrowQ.of (unhide HR), G1.bel⟩)
set_option maxHeartbeats 4000000 in
set_option maxRecDepth 100000 in
theorem grow_8y (a : Option Addr) (n c : Nat) (ts : List Tr) (z : Nz) (w : World) (hn : ts.length ≤ 20000) (hl : n ≤ ts.length) (hl2 : ts.length ≤ n) (hk : z.k = 8) (u : Tr) (hu : ts.getLast? = some u) (hbare : z.pl.2.1 = noA) (hz0 : z.n.size = 0 ∧ z.m = 0) (hrow : RowQ w a (ts.map qT)) (_hub : u.2 ≤ 20000) (_hua : u.1 ≤ 20000) (hB : z.B = (ts.length : Int) - 1) (hA : z.A = (u.1 : Int) - 1) (hN : 1 ≤ u.1) (v : Tr) (hv : ts[u.1 - 1]? = some v) (hvb : v.2 ≤ 20000) :
    Calls Tryz.prog 134 #[.slice a n c, aggN z] w fun e w' => GrowQ ts z.pl e ∧ Below w.heap.size w w' := by
  have HR : Hid (GrowR ts z.pl ((v.1 : Int)) (max (v.2 : Int) (u.2 : Int) + 1) true) := hide (by
    refine Or.inr ⟨(v.1, max v.2 u.2 + 1), ?_, rfl, rfl, by simp only; omega⟩; rw [growP_two (t := u) (show twoK z.pl.1 = true by rw [show z.pl.1 = z.k from rfl, hk]; decide) hu hbare, if_pos ⟨hB, hA, by rw [show z.pl.2.2.1 = z.A from rfl, hA]; omega⟩, show z.pl.2.2.1.toNat = u.1 - 1 by (rw [show z.pl.2.2.1 = z.A from rfl, hA]; omega), hv]; rfl)
  have hnt : (n : Int) = (ts.length : Int) := by omega
  have dB : (z.B != (ts.length : Int) - 1) = false := by simp [hB]
  have dA : (z.A != (u.1 : Int) - 1) = false := by simp [hA]
  have dN2 : ¬ z.A < 0 := by rw [hA]; omega
  have dN : decide (z.A < 0) = false := decide_eq_false dN2
  have hvl : u.1 - 1 < ts.length := (List.getElem?_eq_some_iff.1 hv).1
  have dN3 : (0 : Int) ≤ z.A := by omega
  have dN4 : z.A < (ts.length : Int) := by rw [hA]; omega
  have dN5 : z.A.toNat = u.1 - 1 := by rw [hA]; omega
  have dk1 : (z.k == 1) = false := by rw [hk]; rfl
  have dk2 : (z.k == 2) = false := by rw [hk]; rfl
  have dk3 : (z.k == 3) = false := by rw [hk]; rfl
  have dk4 : (z.k == 4) = false := by rw [hk]; rfl
  have dk5 : (z.k == 5) = false := by rw [hk]; rfl
  have dk6 : (z.k == 6) = false := by rw [hk]; rfl
  have dk7 : (z.k == 7) = false := by rw [hk]; rfl
  have dk8 : (z.k == 8) = true := by rw [hk]; rfl
  have hpos : 0 < ts.length := by
    cases ts with
    | nil => cases hu
    | cons t r => simp
  have hnz : ((ts.length : Int) == 0) = false := beq_eq_false_iff_ne.2 (by omega)
  have hzn : z.n.size = 0 ∧ z.m = 0 := hz0
  have e1 := emp_t hzn.1
  have e2 : decide ((0 : Int) < (z.m : Int)) = false := by simp; omega
  have e2' : ¬ 0 < z.m := by omega
  have hai : ts[ts.length - 1]? = some u := by rw [← List.getLast?_eq_getElem?]; exact hu
  have hlt : ts.length - 1 < (ts.map qT).length := by rw [List.length_map]; omega
  obtain ⟨bq, oq, ha, hbl, x0, x1⟩ := hrow.up hlt
  have hgu : (ts.map qT)[ts.length - 1] = qT u := by
    rw [List.getElem_map]
    have := List.getElem?_eq_some_iff.1 hai
    rw [this.2]
  rw [hgu] at x0 x1
  obtain ⟨bq2, oq2, ha2, -, w0', w1'⟩ := hrow.up (i := u.1 - 1) (by rw [List.length_map]; exact hvl)
  rw [ha] at ha2
  cases ha2
  have hgv : (ts.map qT)[u.1 - 1]'(by rw [List.length_map]; exact hvl) = qT v := by
    rw [List.getElem_map]
    have := List.getElem?_eq_some_iff.1 hv
    rw [this.2]
  rw [hgv] at w0' w1'
  subst ha
  have i0 : (0 : Int) ≤ (ts.length : Int) - 1 := by omega
  have i1 : (ts.length : Int) - 1 < (ts.length : Int) := by omega
  have hix : ((ts.length : Int) - 1).toNat = ts.length - 1 := by omega
  clear hk hu hbare hz0 hzn hai hlt hgu hrow hB hA hN hvl hv hgv
  have GG := g0_of w z
  go_enter Tryz.func134, Tryz.ntmps134
  go_upto_region 1 with fail
  generalize (w.alloc (bxNd z)).alloc zq = W at GG x0 x1 w0' w1' ⊢
  obtain ⟨c0, c1, c2, c3, c4⟩ := GG.bn
  obtain ⟨q0, q1, f0, f1⟩ : _ ∧ _ ∧ _ ∧ _ := ⟨GG.q0, GG.q1, GG.f0, GG.f1⟩
  have y0 := cell_on GG.bel x0
  have y1 := cell_on GG.bel x1
  have y2 := cell_on GG.bel w0'
  have y3 := cell_on GG.bel w1'
  clear w0' w1'
  have hbx := below_new W (.cells #[.int .i64 (u.1 : Int), .int .i64 (u.2 : Int)] 129)
  have hnw := heap_alloc_new W (.cells #[.int .i64 (u.1 : Int), .int .i64 (u.2 : Int)] 129)
  have G1 := GG.on hbx
  have v0 : (W.alloc (.cells #[.int .i64 (u.1 : Int), .int .i64 (u.2 : Int)] 129)).cell? ⟨W.heap.size, 0, none⟩ = some (.int .i64 (u.1 : Int)) := by rw [Lib.cell_of_heap hnw]; rfl
  have v1 : (W.alloc (.cells #[.int .i64 (u.1 : Int), .int .i64 (u.2 : Int)] 129)).cell? ⟨W.heap.size, 1, none⟩ = some (.int .i64 (u.2 : Int)) := by rw [Lib.cell_of_heap hnw]; rfl
  have hne : W.heap.size ≠ w.heap.size + 1 := by have := GG.lt; omega
  have hne' : w.heap.size + 1 ≠ W.heap.size := by have := GG.lt; omega
  have hne2 : w.heap.size ≠ w.heap.size + 1 := by omega
  have y4 := cell_on hbx y2
  have y5 := cell_on hbx y3
  clear x0 x1
  go_upto_region 7 with fail
  clear c0 c1 c2 c3 c4 q0 q1 f0 f1 y0 y1 hnw y2 y3
  generalize W.alloc (.cells #[.int .i64 (u.1 : Int), .int .i64 (u.2 : Int)] 129) = W1 at G1 v0 v1 y4 y5 hbx ⊢
  obtain ⟨c0, c1, c2, c3, c4⟩ := G1.bn
  have hbx2 := below_new W1 (.cells #[.int .i64 (v.1 : Int), .int .i64 (v.2 : Int)] 129)
  have hnw2 := heap_alloc_new W1 (.cells #[.int .i64 (v.1 : Int), .int .i64 (v.2 : Int)] 129)
  have G2 := G1.on hbx2
  have z0 : (W1.alloc (.cells #[.int .i64 (v.1 : Int), .int .i64 (v.2 : Int)] 129)).cell? ⟨W1.heap.size, 0, none⟩ = some (.int .i64 (v.1 : Int)) := by rw [Lib.cell_of_heap hnw2]; rfl
  have z1 : (W1.alloc (.cells #[.int .i64 (v.1 : Int), .int .i64 (v.2 : Int)] 129)).cell? ⟨W1.heap.size, 1, none⟩ = some (.int .i64 (v.2 : Int)) := by rw [Lib.cell_of_heap hnw2]; rfl
  have v2 := cell_on hbx2 v0
  have v3 := cell_on hbx2 v1
  clear hbx
  go_upto_region 20 with fail
  clear c0 c1 c2 c3 c4 y4 y5 v0 v1 hbx2 hnw2
  generalize W1.alloc (.cells #[.int .i64 (v.1 : Int), .int .i64 (v.2 : Int)] 129) = W2 at G2 z0 z1 v2 v3 ⊢
  obtain ⟨c0, c1, c2, c3, c4⟩ := G2.bn
  obtain ⟨q0, q1, f0, f1⟩ : _ ∧ _ ∧ _ ∧ _ := ⟨G2.q0, G2.q1, G2.f0, G2.f1⟩
  obtain ⟨tb, t0, t1⟩ := G2.told (v.1 : Int) (max (v.2 : Int) (u.2 : Int) + 1)
  go_wp2_with fail
  refine bodyPost_ret (v := .tuple #[.agg #[.int .i64 (v.1 : Int), .int .i64 (max (v.2 : Int) (u.2 : Int) + 1)], .bool true]) (by simp [results, Tryz.results134, go_sem, t0, t1]) rfl ?_
  exact ⟨GrowQ.of (unhide HR), tb⟩
end Go.Proofs.YtcjnhhbcleljmaaGreatDoor.Sb
namespace Go.Proofs.YtcjnhhbcleljmaaGreatDoor.Sb
open Go.RowKit
open V
set_option maxHeartbeats 4000000 in
set_option maxRecDepth 100000 in
theorem grow_other (a : Option Addr) (n c : Nat) (ts : List Tr) (z : Nz) (w : World) (hn : ts.length ≤ 20000) (hl : n ≤ ts.length) (hl2 : ts.length ≤ n) (hk : z.k ≠ 1 ∧ oneK z.k = false ∧ twoK z.k = false) (u : Tr) (hu : ts.getLast? = some u) (_hbare : z.pl.2.1 = noA) (hz0 : z.n.size = 0 ∧ z.m = 0) (hrow : RowQ w a (ts.map qT)) (_hub : u.2 ≤ 20000) (_hua : u.1 ≤ 20000) :
    Calls Tryz.prog 134 #[.slice a n c, aggN z] w fun e w' => GrowQ ts z.pl e ∧ Below w.heap.size w w' := by
  have HR : Hid (GrowR ts z.pl (0) (0) false) := hide (by
    exact Or.inl ⟨growP_none hk.1 hk.2.1 hk.2.2, rfl⟩)
  have hnt : (n : Int) = (ts.length : Int) := by omega
  have dk1 : (z.k == 1) = false := beq_eq_false_iff_ne.2 (fun e => by rw [e] at hk; revert hk; decide)
  have dk2 : (z.k == 2) = false := beq_eq_false_iff_ne.2 (fun e => by rw [e] at hk; revert hk; decide)
  have dk3 : (z.k == 3) = false := beq_eq_false_iff_ne.2 (fun e => by rw [e] at hk; revert hk; decide)
  have dk4 : (z.k == 4) = false := beq_eq_false_iff_ne.2 (fun e => by rw [e] at hk; revert hk; decide)
  have dk5 : (z.k == 5) = false := beq_eq_false_iff_ne.2 (fun e => by rw [e] at hk; revert hk; decide)
  have dk6 : (z.k == 6) = false := beq_eq_false_iff_ne.2 (fun e => by rw [e] at hk; revert hk; decide)
  have dk7 : (z.k == 7) = false := beq_eq_false_iff_ne.2 (fun e => by rw [e] at hk; revert hk; decide)
  have dk8 : (z.k == 8) = false := beq_eq_false_iff_ne.2 (fun e => by rw [e] at hk; revert hk; decide)
  have hpos : 0 < ts.length := by
    cases ts with
    | nil => cases hu
    | cons t r => simp
  have hnz : ((ts.length : Int) == 0) = false := beq_eq_false_iff_ne.2 (by omega)
  have hzn : z.n.size = 0 ∧ z.m = 0 := hz0
  have e1 := emp_t hzn.1
  have e2 : decide ((0 : Int) < (z.m : Int)) = false := by simp; omega
  have e2' : ¬ 0 < z.m := by omega
  have hai : ts[ts.length - 1]? = some u := by rw [← List.getLast?_eq_getElem?]; exact hu
  have hlt : ts.length - 1 < (ts.map qT).length := by rw [List.length_map]; omega
  obtain ⟨bq, oq, ha, hbl, x0, x1⟩ := hrow.up hlt
  have hgu : (ts.map qT)[ts.length - 1] = qT u := by
    rw [List.getElem_map]
    have := List.getElem?_eq_some_iff.1 hai
    rw [this.2]
  rw [hgu] at x0 x1
  subst ha
  have i0 : (0 : Int) ≤ (ts.length : Int) - 1 := by omega
  have i1 : (ts.length : Int) - 1 < (ts.length : Int) := by omega
  have hix : ((ts.length : Int) - 1).toNat = ts.length - 1 := by omega
  clear hk hu _hbare hz0 hzn hai hlt hgu hrow
  have GG := g0_of w z
  go_enter Tryz.func134, Tryz.ntmps134
  go_upto_region 1 with fail
  generalize (w.alloc (bxNd z)).alloc zq = W at GG x0 x1 ⊢
  obtain ⟨c0, c1, c2, c3, c4⟩ := GG.bn
  obtain ⟨q0, q1, f0, f1⟩ : _ ∧ _ ∧ _ ∧ _ := ⟨GG.q0, GG.q1, GG.f0, GG.f1⟩
  have y0 := cell_on GG.bel x0
  have y1 := cell_on GG.bel x1
  have hbx := below_new W (.cells #[.int .i64 (u.1 : Int), .int .i64 (u.2 : Int)] 129)
  have hnw := heap_alloc_new W (.cells #[.int .i64 (u.1 : Int), .int .i64 (u.2 : Int)] 129)
  have G1 := GG.on hbx
  have v0 : (W.alloc (.cells #[.int .i64 (u.1 : Int), .int .i64 (u.2 : Int)] 129)).cell? ⟨W.heap.size, 0, none⟩ = some (.int .i64 (u.1 : Int)) := by rw [Lib.cell_of_heap hnw]; rfl
  have v1 : (W.alloc (.cells #[.int .i64 (u.1 : Int), .int .i64 (u.2 : Int)] 129)).cell? ⟨W.heap.size, 1, none⟩ = some (.int .i64 (u.2 : Int)) := by rw [Lib.cell_of_heap hnw]; rfl
  have hne : W.heap.size ≠ w.heap.size + 1 := by have := GG.lt; omega
  have hne' : w.heap.size + 1 ≠ W.heap.size := by have := GG.lt; omega
  have hne2 : w.heap.size ≠ w.heap.size + 1 := by omega
  clear x0 x1
  go_upto_region 7 with fail
  clear c0 c1 c2 c3 c4 q0 q1 f0 f1 y0 y1 hnw hbx
  generalize W.alloc (.cells #[.int .i64 (u.1 : Int), .int .i64 (u.2 : Int)] 129) = W1 at G1 v0 v1 ⊢
  obtain ⟨c0, c1, c2, c3, c4⟩ := G1.bn
  obtain ⟨q0, q1, f0, f1⟩ : _ ∧ _ ∧ _ ∧ _ := ⟨G1.q0, G1.q1, G1.f0, G1.f1⟩
  obtain ⟨tb, t0, t1⟩ := G1.told 0 0
  go_wp2_with fail
  first
  | (refine bodyPost_ret (v := .tuple #[.agg #[.int .i64 0, .int .i64 0], .bool false]) (by simp [results, Tryz.results134, go_sem, t0, t1]) rfl ?_
     exact ⟨GrowQ.of (unhide HR), tb⟩)
  | (refine bodyPost_ret (v := .tuple #[.agg #[.int .i64 0, .int .i64 0], .bool false]) (by simp [results, Tryz.results134, go_sem, q0, q1]) rfl ?_
     exact ⟨GrowQ.of (unhide HR), G1.bel⟩)
theorem grow_any (a : Option Addr) (n c : Nat) (ts : List Tr) (z : Nz) (w : World) (hl : LiesQ w a n c (ts.map qT)) (hz : z.In w) (hL : z.Light) (hb : ∀ u ∈ ts, u.1 < ts.length ∧ u.2 ≤ ts.length) (hn : ts.length ≤ 20000) :
    Calls Tryz.prog 134 #[.slice a n c, aggN z] w fun e w' => GrowQ ts z.pl e ∧ Below w.heap.size w w' := by
  have l1 : n ≤ ts.length := by have := hl.le; rwa [List.length_map] at this
  have l2 : ts.length ≤ n := by have := hl.ge; rwa [List.length_map] at this
  by_cases hk : z.k = 1
  · cases hr : V.rightA (z.n.data.toList, z.ts) with
    | false => exact grow_is_no a n c ts z w hz hL hk hn l1 l2 hr
    | true =>
      by_cases hA : z.A = 0
      · by_cases hB : z.B = 0
        · exact grow_is_yes a n c ts z w hz hL hk hn l1 l2 hr hA hB
        · exact grow_is_B a n c ts z w hz hL hk hn l1 l2 hr hA hB
      · exact grow_is_A a n c ts z w hz hL hk hn l1 l2 hr hA
  · by_cases h0 : ts = []
    · exact grow_empty a n c ts z w hn l1 l2 hk h0
    have hpos : 0 < ts.length := List.length_pos_iff.2 h0
    by_cases hs : z.n.size = 0
    case neg => exact grow_name a n c ts z w hn l1 l2 hk hpos hs
    have hml : z.m = z.ts.length := Lies.len hz
    by_cases hm : 0 < z.m
    · exact grow_args a n c ts z w hn l1 l2 hk hpos hs hm hml
    have hm0 : z.m = 0 := by omega
    have hbare : z.pl.2.1 = noA := by
      show (z.n.data.toList, z.ts) = ([], [])
      rw [List.eq_nil_of_length_eq_zero (l := z.ts) (by omega), List.eq_nil_of_length_eq_zero (l := z.n.data.toList) (by simpa using hs)]
    obtain ⟨u, hu⟩ : ∃ u, ts.getLast? = some u := by
      rw [List.getLast?_eq_getElem?]
      exact ⟨_, List.getElem?_eq_getElem (by omega)⟩
    have hub := hb u (getLast_mem hu)
    cases h1 : oneK z.k with
    | true =>
      have key : ∀ k : Int, z.k = k → k = 2 ∨ k = 5 ∨ k = 6 ∨ k = 7 := fun k e => by rw [e] at h1; exact oneK_iff.1 h1
      by_cases hA : z.A = (ts.length : Int) - 1
      · by_cases hB : z.B = 0
        · rcases key _ rfl with e | e | e | e
          · exact grow_2y a n c ts z w hn l1 l2 e u hu hbare ⟨hs, hm0⟩ hl.row (by omega) hA hB
          · exact grow_5y a n c ts z w hn l1 l2 e u hu hbare ⟨hs, hm0⟩ hl.row (by omega) hA hB
          · exact grow_6y a n c ts z w hn l1 l2 e u hu hbare ⟨hs, hm0⟩ hl.row (by omega) hA hB
          · exact grow_7y a n c ts z w hn l1 l2 e u hu hbare ⟨hs, hm0⟩ hl.row (by omega) hA hB
        · rcases key _ rfl with e | e | e | e
          · exact grow_2B a n c ts z w hn l1 l2 e u hu hbare ⟨hs, hm0⟩ hl.row (by omega) hA hB
          · exact grow_5B a n c ts z w hn l1 l2 e u hu hbare ⟨hs, hm0⟩ hl.row (by omega) hA hB
          · exact grow_6B a n c ts z w hn l1 l2 e u hu hbare ⟨hs, hm0⟩ hl.row (by omega) hA hB
          · exact grow_7B a n c ts z w hn l1 l2 e u hu hbare ⟨hs, hm0⟩ hl.row (by omega) hA hB
      · rcases key _ rfl with e | e | e | e
        · exact grow_2A a n c ts z w hn l1 l2 e u hu hbare ⟨hs, hm0⟩ hl.row (by omega) hA
        · exact grow_5A a n c ts z w hn l1 l2 e u hu hbare ⟨hs, hm0⟩ hl.row (by omega) hA
        · exact grow_6A a n c ts z w hn l1 l2 e u hu hbare ⟨hs, hm0⟩ hl.row (by omega) hA
        · exact grow_7A a n c ts z w hn l1 l2 e u hu hbare ⟨hs, hm0⟩ hl.row (by omega) hA
    | false =>
      cases h2 : twoK z.k with
      | false => exact grow_other a n c ts z w hn l1 l2 ⟨hk, h1, h2⟩ u hu hbare ⟨hs, hm0⟩ hl.row (by omega) (by omega)
      | true =>
        have key : z.k = 3 ∨ z.k = 4 ∨ z.k = 8 := twoK_iff.1 h2
        by_cases hB : z.B = (ts.length : Int) - 1
        · by_cases hA : z.A = (u.1 : Int) - 1
          · by_cases hN : u.1 = 0
            · rcases key with e | e | e
              · exact grow_3N a n c ts z w hn l1 l2 e u hu hbare ⟨hs, hm0⟩ hl.row (by omega) (by omega) hB hA hN
              · exact grow_4N a n c ts z w hn l1 l2 e u hu hbare ⟨hs, hm0⟩ hl.row (by omega) (by omega) hB hA hN
              · exact grow_8N a n c ts z w hn l1 l2 e u hu hbare ⟨hs, hm0⟩ hl.row (by omega) (by omega) hB hA hN
            · have hlt : u.1 - 1 < ts.length := by omega
              have hv : ts[u.1 - 1]? = some ts[u.1 - 1] := List.getElem?_eq_getElem hlt
              have hvb := hb _ (List.getElem_mem hlt)
              rcases key with e | e | e
              · exact grow_3y a n c ts z w hn l1 l2 e u hu hbare ⟨hs, hm0⟩ hl.row (by omega) (by omega) hB hA (by omega) _ hv (by omega)
              · exact grow_4y a n c ts z w hn l1 l2 e u hu hbare ⟨hs, hm0⟩ hl.row (by omega) (by omega) hB hA (by omega) _ hv (by omega)
              · exact grow_8y a n c ts z w hn l1 l2 e u hu hbare ⟨hs, hm0⟩ hl.row (by omega) (by omega) hB hA (by omega) _ hv (by omega)
          · rcases key with e | e | e
            · exact grow_3A a n c ts z w hn l1 l2 e u hu hbare ⟨hs, hm0⟩ hl.row (by omega) (by omega) hB hA
            · exact grow_4A a n c ts z w hn l1 l2 e u hu hbare ⟨hs, hm0⟩ hl.row (by omega) (by omega) hB hA
            · exact grow_8A a n c ts z w hn l1 l2 e u hu hbare ⟨hs, hm0⟩ hl.row (by omega) (by omega) hB hA
        · rcases key with e | e | e
          · exact grow_3B a n c ts z w hn l1 l2 e u hu hbare ⟨hs, hm0⟩ hl.row (by omega) (by omega) hB
          · exact grow_4B a n c ts z w hn l1 l2 e u hu hbare ⟨hs, hm0⟩ hl.row (by omega) (by omega) hB
          · exact grow_8B a n c ts z w hn l1 l2 e u hu hbare ⟨hs, hm0⟩ hl.row (by omega) (by omega) hB
end Go.Proofs.YtcjnhhbcleljmaaGreatDoor.Sb
namespace Go.Proofs.YtcjnhhbcleljmaaGreatDoor.Sb
open Go.RowKit
open V

theorem right_no {l : List Np} {k : Nat} (hk : k < l.length) {T : List Tr} (h : growL [] (l.take k) = some T) (hp : growP T l[k] = none) : rightFm l = false := by
  cases hr : rightFm l with
  | false => rfl
  | true =>
    obtain ⟨_, T', d, hT, _, _⟩ := right_grow.1 hr
    obtain ⟨t, _, ht⟩ := growL_at hT hk
    have := growL_take hT k
    rw [h] at this
    cases this
    rw [hp] at ht
    cases ht
theorem right_last {l : List Np} (hl : 1 ≤ l.length ∧ l.length ≤ 40) {T : List Tr} {u : Tr} (h : growL [] l = some T) (hu : T.getLast? = some u) : rightFm l = decide (u.1 = 0 ∧ u.2 ≤ 12) := by
  cases hr : rightFm l with
  | true =>
    obtain ⟨_, T', d, hT, hd, h12⟩ := right_grow.1 hr
    rw [h] at hT
    cases hT
    rw [hu] at hd
    cases hd
    exact (decide_eq_true ⟨rfl, h12⟩).symm
  | false =>
    refine (decide_eq_false (fun hc => ?_)).symm
    obtain ⟨u1, u2⟩ := u
    simp only at hc
    obtain ⟨rfl, h12⟩ := hc
    have := right_grow.2 ⟨hl, T, u2, h, hu, h12⟩
    rw [hr] at this
    cases this
/-- What subtrees tells. -/
def SubR (w w' : World) (l : List Np) (e : Ending) : Prop := (rightFm l = false ∧ ∃ v, e = .returned (.tuple #[v, .bool false])) ∨ (rightFm l = true ∧ ∃ (q : Option Addr) (n cp : Nat) (T : List Tr), e = .returned (.tuple #[.slice q n cp, .bool true]) ∧ growL [] l = some T ∧ w'.ownsRow w.heap.size 129 2 (.slice q n cp) T.length (flatQ (T.map qT)))
theorem SubR.no {w w' : World} {l : List Np} {v : Value} (h : rightFm l = false) : SubR w w' l (.returned (.tuple #[v, .bool false])) := Or.inl ⟨h, v, rfl⟩
theorem SubR.yes {w w' : World} {l : List Np} {q : Option Addr} {n cp : Nat} {T : List Tr} (h : rightFm l = true) (hT : growL [] l = some T) (ho : w'.ownsRow w.heap.size 129 2 (.slice q n cp) T.length (flatQ (T.map qT))) : SubR w w' l (.returned (.tuple #[.slice q n cp, .bool true])) := Or.inr ⟨h, q, n, cp, T, rfl, hT, ho⟩
theorem map_at {zs : List Nz} {k : Nat} (hk : k < zs.length) : (zs.map Nz.pl)[k]'(by rw [List.length_map]; exact hk) = zs[k].pl := List.getElem_map _
abbrev bxQ2 (f d : Int) : Obj := .cells #[.int .i64 f, .int .i64 d] 129
set_option maxHeartbeats 4000000 in
set_option maxRecDepth 100000 in
theorem subtrees_any (a : Option Addr) (n c : Nat) (zs : List Nz) (w : World) (hA : LiesN w a n c zs) (hL : ∀ z ∈ zs, z.Light) (hn : n ≤ 20000) :
    Calls Tryz.prog 82 #[.slice a n c] w fun e w' => SubR w w' (zs.map Nz.pl) e ∧ Below w.heap.size w w' := by
  have hle := hA.le
  have hge := hA.ge
  have hlm : (zs.map Nz.pl).length = zs.length := List.length_map _
  by_cases h1 : n < 1
  · have HR : Hid (rightFm (zs.map Nz.pl) = false) := hide (by
      unfold rightFm
      rw [decide_eq_false (by omega), Bool.false_and])
    have d1 : decide ((n : Int) < 1) = true := decide_eq_true (by omega)
    clear hA hL hle hge hlm
    go_enter Tryz.func82, Tryz.ntmps82
    go_wp2_with fail
    refine bodyPost_ret (v := .tuple #[.slice none 0 0, .bool false]) (by simp [results, Tryz.results82, go_sem]) rfl ?_
    exact ⟨SubR.no (unhide HR), Below.refl _ _⟩
  have d1 : decide ((n : Int) < 1) = false := decide_eq_false (by omega)
  by_cases h2 : 40 < n
  · have HR : Hid (rightFm (zs.map Nz.pl) = false) := hide (by
      unfold rightFm
      rw [decide_eq_false (by omega), Bool.false_and])
    have d2 : decide (40 < (n : Int)) = true := decide_eq_true (by omega)
    clear hA hL hle hge hlm
    go_enter Tryz.func82, Tryz.ntmps82
    go_wp2_with fail
    refine bodyPost_ret (v := .tuple #[.slice none 0 0, .bool false]) (by simp [results, Tryz.results82, go_sem]) rfl ?_
    exact ⟨SubR.no (unhide HR), Below.refl _ _⟩
  have d2 : decide (40 < (n : Int)) = false := decide_eq_false (by omega)
  have HLL := hide hL
  have HLM := hide hlm
  clear hL hlm
  go_enter Tryz.func82, Tryz.ntmps82
  go_wp2_with fail
  go_loopw [4, 20] (fun tv i wr => ∃ (k : Nat) (T : List Tr), k ≤ n ∧ i = .int .i64 k ∧ T.length ≤ k ∧ k ≤ T.length ∧ Hid (growL [] ((zs.map Nz.pl).take k) = some T) ∧ Hid (wr.ownsRow w.heap.size 129 2 tv T.length (flatQ (T.map qT))) ∧ Below w.heap.size w wr) (fun _ i _ => n - (intOf i).toNat)
  case atStart => exact ⟨0, [], Nat.zero_le _, rfl, Nat.le_refl _, Nat.le_refl _, hide rfl, hide (World.ownsRow_nil _ _ _ _), Below.refl _ _⟩
  case round =>
    obtain ⟨k, T, hk, rfl, ht1, ht2, HG, HO, hbw⟩ := hrel
    obtain ⟨q, cq, rfl⟩ : ∃ q cq, u4 = .slice q T.length cq := own_slice (unhide HO)
    by_cases hlt : k < n
    · have hk' : k < zs.length := by omega
      have hA1 := hA.on hbw
      obtain ⟨b, o, ha, hbl, e0, e1, e2, e3, e4⟩ := hA1.row.up hk'
      have hz := hA1.all _ (List.getElem_mem hk')
      have hZL := unhide HLL _ (List.getElem_mem hk')
      have HS := hide (growL_snoc (l := zs.map Nz.pl) (k := k) (by rw [unhide HLM]; exact hk') (unhide HG))
      have HNO := hide (fun h => right_no (l := zs.map Nz.pl) (k := k) (by rw [unhide HLM]; exact hk') (unhide HG) h)
      rw [map_at hk'] at HS HNO
      have HBD := hide (growL_bd (unhide HG))
      subst ha
      clear hA1
      generalize zs[k] = z at e0 e1 e2 e3 e4 hz hZL HS HNO
      have hbx := below_new wr (bxNd z)
      have T1 := bn_of (heap_alloc_new wr (bxNd z))
      have hz1 := hz.on hbx
      have HO1 := hide (own_on (unhide HO) hbx)
      have hb1 := bt hbw hbx
      go_upto_region 7 with fail
      clear e0 e1 e2 e3 e4 hbl hz hbx
      generalize wr.alloc (bxNd z) = W at T1 hz1 HO1 hb1 ⊢
      obtain ⟨c0, c1, c2, c3, c4⟩ := T1
      have F := hide (grow_any q T.length cq T z W (liesQ_own (by rw [List.length_map]; exact unhide HO1)) hz1 hZL (unhide HBD) (by omega))
      go_wp2_with fail
      refine (unhide F).mono ?_
      rintro e w2 ⟨⟨f, d, r, rfl, hr⟩, hb2⟩
      have HRR := hide hr
      have HO2 := hide (own_on (own_on (unhide HO1) hb2) (below_new w2 (bxQ2 f d)))
      have hb3 := bt hb1 (bt hb2 (below_new w2 (bxQ2 f d)))
      have hnw := heap_alloc_new w2 (bxQ2 f d)
      clear hr c0 c1 c2 c3 c4 F HO HO1 hb1 hb2
      cases r with
      | false =>
        have HF : Hid (rightFm (zs.map Nz.pl) = false) := hide (by
          rcases unhide HRR with ⟨h, _⟩ | ⟨t, _, h, _⟩
          · exact unhide HNO h
          · cases h)
        clear HRR HNO HS HO2 hnw
        go_wp2_with fail
        refine bodyPost_ret (v := .tuple #[.slice none 0 0, .bool false]) (by simp [results, Tryz.results82, go_sem]) rfl ?_
        exact ⟨SubR.no (unhide HF), hb3⟩
      | true =>
        have HX : Hid (∃ t : Tr, growP T z.pl = some t ∧ f = (t.1 : Int) ∧ d = (t.2 : Int)) := hide (by
          rcases unhide HRR with ⟨_, h⟩ | ⟨t, h1, _, h2, h3⟩
          · cases h
          · exact ⟨t, h1, h2, h3⟩)
        obtain ⟨t, hg, rfl, rfl⟩ := unhide HX
        have HG2 : Hid (growL [] ((zs.map Nz.pl).take (k + 1)) = some (T ++ [t])) := hide (by rw [unhide HS, hg]; rfl)
        clear HRR HNO HS HX hg
        go_upto_region 10 with fail
        have hb4 := bt hb3 (below_new _ (bxQ2 (t.1 : Int) (t.2 : Int)))
        have HO3 := own_on (unhide HO2) (below_new _ (bxQ2 (t.1 : Int) (t.2 : Int)))
        have p0 : (w2.alloc (bxQ2 (t.1 : Int) (t.2 : Int))).cell? ⟨w2.heap.size, 0, none⟩ = some (.int .i64 (t.1 : Int)) := by rw [Lib.cell_of_heap hnw]; rfl
        have p1 : (w2.alloc (bxQ2 (t.1 : Int) (t.2 : Int))).cell? ⟨w2.heap.size, 1, none⟩ = some (.int .i64 (t.2 : Int)) := by rw [Lib.cell_of_heap hnw]; rfl
        clear hnw hb3 HO2
        generalize w2.alloc (bxQ2 (t.1 : Int) (t.2 : Int)) = W2 at hb4 HO3 p0 p1 ⊢
        have hnew : Hid ((W2.alloc (bxQ2 (t.1 : Int) (t.2 : Int))).heap[W2.heap.size]? = some (.cells #[.int .i64 (qT t).1, .int .i64 (qT t).2] 129 (0, 0))) := hide (heap_alloc_new W2 _)
        have hlT : (T.map qT).length = T.length := List.length_map _
        have HO4 : (W2.alloc (bxQ2 (t.1 : Int) (t.2 : Int))).ownsRow w.heap.size 129 2 (.slice q T.length cq) (T.map qT).length (flatQ (T.map qT)) := by rw [hlT]; exact HO3
        have hsz := hb4.size
        have hT2 : (T.map qT).length ≤ 20000 := by omega
        clear hlT HO3
        go_wp2_with (at_builtin; refine app_tr rfl _ _ rfl w.heap.size (.slice q T.length cq) (T.map qT) (qT t) W2.heap.size rfl rfl HO4 hnew hT2 hsz ?_)
        intro v' w3 hr hg h5
        have hb5 := hb4.grown hg hsz (fun m hm => (HO4.lt m hm).1)
        have HO5 : Hid (w3.ownsRow w.heap.size 129 2 v' (T ++ [t]).length (flatQ ((T ++ [t]).map qT))) := hide (by
          rw [List.map_append, List.length_append, List.length_singleton]
          first | exact hr | (rw [List.length_map] at hr; exact hr))
        have hl1 : (T ++ [t]).length = T.length + 1 := by simp
        have ht3 : (T ++ [t]).length ≤ k + 1 := by omega
        have ht4 : k + 1 ≤ (T ++ [t]).length := by omega
        clear hr hg h5 HO4 hnew p0 p1 hb4 hsz hl1 hT2
        generalize T ++ [t] = T' at HG2 HO5 ht3 ht4
        go_wp2_with fail
        go_roundw
        case rel => exact ⟨k + 1, T', by omega, by go_num, ht3, ht4, HG2, HO5, hb5⟩
        case measure => simp [intOf]; omega
    · have hkn : k = n := by omega
      subst hkn
      have HG2 : Hid (growL [] (zs.map Nz.pl) = some T) := hide (by
        have := unhide HG
        rwa [List.take_of_length_le (by rw [unhide HLM]; omega)] at this)
      have hpos : 0 < T.length := by omega
      have hu : T.getLast? = some T[T.length - 1] := by rw [List.getLast?_eq_getElem?]; exact List.getElem?_eq_getElem (by omega)
      have HRL := hide (right_last (l := zs.map Nz.pl) ⟨by rw [unhide HLM]; omega, by rw [unhide HLM]; omega⟩ (unhide HG2) hu)
      have hq := liesQ_own (ts := T.map qT) (by rw [List.length_map]; exact unhide HO)
      obtain ⟨b, o, ha, hbl, x0, x1⟩ := hq.row.up (i := T.length - 1) (by rw [List.length_map]; omega)
      have hgu : (T.map qT)[T.length - 1]'(by rw [List.length_map]; omega) = qT T[T.length - 1] := List.getElem_map _
      rw [hgu] at x0 x1
      have hub := growL_bd (unhide HG2) _ (List.getElem_mem (show T.length - 1 < T.length by omega))
      generalize T[T.length - 1] = u at hu HRL x0 x1 hub hgu
      subst ha
      have hbx := below_new wr (bxQ2 (u.1 : Int) (u.2 : Int))
      have hnw := heap_alloc_new wr (bxQ2 (u.1 : Int) (u.2 : Int))
      have p0 : (wr.alloc (bxQ2 (u.1 : Int) (u.2 : Int))).cell? ⟨wr.heap.size, 0, none⟩ = some (.int .i64 (u.1 : Int)) := by rw [Lib.cell_of_heap hnw]; rfl
      have p1 : (wr.alloc (bxQ2 (u.1 : Int) (u.2 : Int))).cell? ⟨wr.heap.size, 1, none⟩ = some (.int .i64 (u.2 : Int)) := by rw [Lib.cell_of_heap hnw]; rfl
      have HO1 := hide (own_on (unhide HO) hbx)
      have hb1 := bt hbw hbx
      have i0 : (0 : Int) ≤ (T.length : Int) - 1 := by omega
      have i1 : (T.length : Int) - 1 < (T.length : Int) := by omega
      have hix : ((T.length : Int) - 1).toNat = T.length - 1 := by omega
      have hcap := hq.cap
      clear hu hgu hbx hnw hq HO HG hbl hub
      go_upto_region 13 with fail
      clear x0 x1
      generalize wr.alloc (bxQ2 (u.1 : Int) (u.2 : Int)) = W at p0 p1 HO1 hb1 ⊢
      have hdr := hb1.drew
      by_cases hu1 : u.1 = 0
      · have e1 : ((u.1 : Int) == 0) = true := by rw [hu1]; rfl
        by_cases hu2 : u.2 ≤ 12
        · have e2 : decide ((u.2 : Int) ≤ 12) = true := decide_eq_true (by omega)
          have HT : Hid (rightFm (zs.map Nz.pl) = true) := hide (by rw [unhide HRL]; exact decide_eq_true ⟨hu1, hu2⟩)
          clear hu1 hu2 HRL
          go_quiet (fail)
          have hw9 := below_drewN hb1 nq
          have HO9 := hide (own_on (unhide HO1) (below_drewN (Below.refl W.heap.size W) nq))
          generalize W.drewN nq = W9 at hw9 HO9 ⊢
          go_wp2_with fail
          refine bodyPost_ret (v := .tuple #[.slice (some ⟨b, o, none⟩) T.length cq, .bool true]) (by simp [results, Tryz.results82, go_sem]) rfl ?_
          exact ⟨SubR.yes (unhide HT) (unhide HG2) (unhide HO9), hw9⟩
        · have e2 : decide ((u.2 : Int) ≤ 12) = false := decide_eq_false (by omega)
          have HT : Hid (rightFm (zs.map Nz.pl) = false) := hide (by rw [unhide HRL]; exact decide_eq_false (fun h => hu2 h.2))
          clear hu1 hu2 HRL
          go_quiet (fail)
          have hw9 := below_drewN hb1 nq
          generalize W.drewN nq = W9 at hw9 ⊢
          go_wp2_with fail
          refine bodyPost_ret (v := .tuple #[.slice (some ⟨b, o, none⟩) T.length cq, .bool false]) (by simp [results, Tryz.results82, go_sem]) rfl ?_
          exact ⟨SubR.no (unhide HT), hw9⟩
      · have e1 : ((u.1 : Int) == 0) = false := beq_eq_false_iff_ne.2 (by omega)
        have HT : Hid (rightFm (zs.map Nz.pl) = false) := hide (by rw [unhide HRL]; exact decide_eq_false (fun h => hu1 h.1))
        clear hu1 HRL
        go_quiet (fail)
        have hw9 := below_drewN hb1 nq
        generalize W.drewN nq = W9 at hw9 ⊢
        go_wp2_with fail
        refine bodyPost_ret (v := .tuple #[.slice (some ⟨b, o, none⟩) T.length cq, .bool false]) (by simp [results, Tryz.results82, go_sem]) rfl ?_
        exact ⟨SubR.no (unhide HT), hw9⟩
end Go.Proofs.YtcjnhhbcleljmaaGreatDoor.Sb
namespace Go.Proofs.YtcjnhhbcleljmaaGreatDoor.Sb
open Go.RowKit
open V

/-- A row of texts lies at a. -/
def RowTx (w : World) (a : Option Addr) (n c : Nat) (ts : List ByteArray) : Prop := (n ≤ c ∧ n = ts.length) ∧ (ts = [] ∨ ∃ g o, a = some ⟨g, o, none⟩ ∧ g < w.heap.size ∧ ∀ (j : Nat) x, ts[j]? = some x → w.cell? ⟨g, o + j, none⟩ = some (.string x))
theorem RowTx.on {w w' : World} {a : Option Addr} {n c : Nat} {ts : List ByteArray} (h : RowTx w a n c ts) (hb : Below w.heap.size w w') : RowTx w' a n c ts := by
  refine ⟨h.1, ?_⟩
  rcases h.2 with h | ⟨g, o, ha, hg, hc⟩
  · exact Or.inl h
  · exact Or.inr ⟨g, o, ha, by have := hb.size; omega, fun j x hx => cell_on hb (hc j x hx)⟩
theorem RowTx.up {w : World} {a : Option Addr} {n c : Nat} {ts : List ByteArray} (h : RowTx w a n c ts) {i : Nat} {x : ByteArray} (hx : ts[i]? = some x) : ∃ g o, a = some ⟨g, o, none⟩ ∧ g < w.heap.size ∧ (∀ (j : Nat) y, ts[j]? = some y → w.cell? ⟨g, o + j, none⟩ = some (.string y)) ∧ i < n ∧ n ≤ c := by
  have hi := (List.getElem?_eq_some_iff.1 hx).1
  rcases h.2 with h0 | ⟨g, o, ha, hg, hc⟩
  · subst h0; cases hx
  · exact ⟨g, o, ha, hg, hc, by rw [h.1.2]; exact hi, h.1.1⟩
set_option maxHeartbeats 2000000 in
set_option maxRecDepth 20000 in
theorem nodeText_is (z : Nz) (a : Option Addr) (n c : Nat) (s : ByteArray) (w : World) (he : Env w) (hz : z.In w) (hk : z.k = 1) (H : Hid (V.rightA (z.n.data.toList, z.ts) = true)) (HS : Hid (bs (textA (z.n.data.toList, z.ts)) = s)) :
    Calls Tryz.prog 126 #[aggN z, .slice a n c] w fun e w' => e = .returned (.string s) ∧ Below w.heap.size w w' := by
  have hb0 := below_new w (bxNd z)
  have T0 := bn_of (heap_alloc_new w (bxNd z))
  have F := hide (fatomText_any z.n z.a z.m z.mc z.ts s (w.alloc (bxNd z)) (he.on hb0) (hz.on hb0) H HS)
  have d1 : (z.k == 1) = true := by rw [hk]; rfl
  obtain ⟨c0, c1, c2, c3, c4⟩ := T0
  clear hz he H HS hk
  go_enter Tryz.func126, Tryz.ntmps126
  go_wp2_with fail
  refine (unhide F).mono ?_
  rintro e w1 ⟨rfl, hb1⟩
  clear F c0 c1 c2 c3 c4
  go_wp2_with fail
  go_ret
  exact ⟨rfl, bt hb0 hb1⟩
set_option maxHeartbeats 4000000 in
set_option maxRecDepth 20000 in
theorem nodeText_one (z : Nz) (k i : Nat) (x : ByteArray) (a : Option Addr) (n c : Nat) (ts : List ByteArray) (s : ByteArray) (w : World) (hw : Wd w) (hr : RowTx w a n c ts) (hk : z.k = (k : Int)) (h1 : oneK z.k = true) (hA : z.A = (i : Int)) (hx : ts[i]? = some x) (hxs : x.size ≤ 1000000) (HS : Hid (wordT k ++ ⟨#[32]⟩ ++ x = s)) :
    Calls Tryz.prog 126 #[aggN z, .slice a n c] w fun e w' => e = .returned (.string s) ∧ Below w.heap.size w w' := by
  have hb0 := below_new w (bxNd z)
  have T0 := bn_of (heap_alloc_new w (bxNd z))
  have hr1 := hr.on hb0
  have hw1 := hw.on hb0
  obtain ⟨g, o, rfl, hg, hc, hin, hnc⟩ := hr1.up hx
  have x0 := hc i x hx
  have hk9 : k < 9 := by rcases oneK_iff.1 h1 with e | e | e | e <;> omega
  have y0 := hw1 k hk9
  have hws : (wordT k).size ≤ 10 := by
    have : k = 2 ∨ k = 5 ∨ k = 6 ∨ k = 7 := by rcases oneK_iff.1 h1 with e | e | e | e <;> omega
    rcases this with rfl | rfl | rfl | rfl <;> decide
  have d1 : (z.k == 1) = false := beq_eq_false_iff_ne.2 (by rcases oneK_iff.1 h1 with e | e | e | e <;> omega)
  have d3 : (z.k == 3) = false := beq_eq_false_iff_ne.2 (by rcases oneK_iff.1 h1 with e | e | e | e <;> omega)
  have d4 : (z.k == 4) = false := beq_eq_false_iff_ne.2 (by rcases oneK_iff.1 h1 with e | e | e | e <;> omega)
  have d8 : (z.k == 8) = false := beq_eq_false_iff_ne.2 (by rcases oneK_iff.1 h1 with e | e | e | e <;> omega)
  have i0 : (0 : Int) ≤ z.A := by omega
  have i1 : z.A < (n : Int) := by omega
  have i2 : z.A.toNat = i := by omega
  have j0 : (0 : Int) ≤ z.k := by omega
  have j1 : z.k < 9 := by omega
  have j2 : z.k.toNat = k := by omega
  generalize wordT k = u at y0 hws HS
  have s1 : ¬ 9223372036854775807 < u.size + (⟨#[32]⟩ : ByteArray).size := by rw [show (⟨#[32]⟩ : ByteArray).size = 1 from rfl]; omega
  have s2 : ¬ 9223372036854775807 < (u ++ ⟨#[32]⟩).size + x.size := by
    rw [ByteArray.size_append, show (⟨#[32]⟩ : ByteArray).size = 1 from rfl]; omega
  obtain ⟨c0, c1, c2, c3, c4⟩ := T0
  clear hk hA h1 hx hr hw hr1 hw1 hc hin
  go_enter Tryz.func126, Tryz.ntmps126
  go_upto_region 2 with fail
  generalize w.alloc (bxNd z) = W at hb0 c0 c1 c2 c3 c4 x0 y0 hg ⊢
  have qx0 := cell_regrown x0
  have qy0 := cell_regrown y0
  have qc0 := cell_regrown c0
  have qc3 := cell_regrown c3
  refine wp_region_quiet_below (by kernel_rfl) (by kernel_rfl) ?_
  repeat (go_big_quiet_step (fail))
  refine wpQuiet_nil ?_
  intro _ hww2
  obtain ⟨⟨dq, osq⟩, hxw2⟩ := hww2
  subst hxw2
  have hb2 := below_regrown W dq osq
  clear qx0 qy0 qc0 qc3 c0 c1 c2 c3 c4 x0 y0
  generalize Sort.grow (redrawn W dq) osq = w2 at hb2 ⊢
  go_wp2_with fail
  go_ret
  exact ⟨congrArg (fun x => Ending.returned (.string x)) (unhide HS), bt hb0 hb2⟩
set_option maxHeartbeats 4000000 in
set_option maxRecDepth 20000 in
theorem nodeText_3 (z : Nz) (i j : Nat) (x y : ByteArray) (a : Option Addr) (n c : Nat) (ts : List ByteArray) (s : ByteArray) (w : World) (hw : Wd w) (hr : RowTx w a n c ts) (hk : z.k = 3) (hA : z.A = (i : Int)) (hB : z.B = (j : Int)) (hx : ts[i]? = some x) (hy : ts[j]? = some y) (hxs : x.size ≤ 1000000) (hys : y.size ≤ 1000000) (HS : Hid ((⟨#[40]⟩ : ByteArray) ++ x ++ ⟨#[32]⟩ ++ wordT 3 ++ ⟨#[32]⟩ ++ y ++ ⟨#[41]⟩ = s)) :
    Calls Tryz.prog 126 #[aggN z, .slice a n c] w fun e w' => e = .returned (.string s) ∧ Below w.heap.size w w' := by
  have hb0 := below_new w (bxNd z)
  have T0 := bn_of (heap_alloc_new w (bxNd z))
  have hr1 := hr.on hb0
  have hw1 := hw.on hb0
  obtain ⟨g, o, rfl, hg, hc, hin, hnc⟩ := hr1.up hx
  have x0 := hc i x hx
  have x1 := hc j y hy
  have hjn : j < n := (hr1.up hy).choose_spec.choose_spec.2.2.2.1
  have y0 := hw1 3 (by decide)
  have hws : (wordT 3).size ≤ 10 := by decide
  have d1 : (z.k == 1) = false := by rw [hk]; rfl
  have d3 : (z.k == 3) = true := by rw [hk]; rfl
  have d4 : (z.k == 4) = false := by rw [hk]; rfl
  have d8 : (z.k == 8) = false := by rw [hk]; rfl
  have i0 : (0 : Int) ≤ z.A := by omega
  have i1 : z.A < (n : Int) := by omega
  have i2 : z.A.toNat = i := by omega
  have b0 : (0 : Int) ≤ z.B := by omega
  have b1 : z.B < (n : Int) := by omega
  have b2 : z.B.toNat = j := by omega
  have j0 : (0 : Int) ≤ z.k := by omega
  have j1 : z.k < 9 := by omega
  have j2 : z.k.toNat = 3 := by omega
  generalize wordT 3 = u at y0 hws HS
  have t1 : (⟨#[32]⟩ : ByteArray).size = 1 := rfl
  have t2 : (⟨#[40]⟩ : ByteArray).size = 1 := rfl
  have t3 : (⟨#[41]⟩ : ByteArray).size = 1 := rfl
  have s1 : ¬ 9223372036854775807 < (⟨#[40]⟩ : ByteArray).size + x.size := by omega
  have s2 : ¬ 9223372036854775807 < ((⟨#[40]⟩ : ByteArray) ++ x).size + (⟨#[32]⟩ : ByteArray).size := by simp only [ByteArray.size_append]; omega
  have s3 : ¬ 9223372036854775807 < ((⟨#[40]⟩ : ByteArray) ++ x ++ ⟨#[32]⟩).size + u.size := by simp only [ByteArray.size_append]; omega
  have s4 : ¬ 9223372036854775807 < ((⟨#[40]⟩ : ByteArray) ++ x ++ ⟨#[32]⟩ ++ u).size + (⟨#[32]⟩ : ByteArray).size := by simp only [ByteArray.size_append]; omega
  have s5 : ¬ 9223372036854775807 < ((⟨#[40]⟩ : ByteArray) ++ x ++ ⟨#[32]⟩ ++ u ++ ⟨#[32]⟩).size + y.size := by simp only [ByteArray.size_append]; omega
  have s6 : ¬ 9223372036854775807 < ((⟨#[40]⟩ : ByteArray) ++ x ++ ⟨#[32]⟩ ++ u ++ ⟨#[32]⟩ ++ y).size + (⟨#[41]⟩ : ByteArray).size := by simp only [ByteArray.size_append]; omega
  clear t1 t2 t3
  obtain ⟨c0, c1, c2, c3, c4⟩ := T0
  clear hk hA hB hx hy hr hw hr1 hw1 hc hin hjn
  go_enter Tryz.func126, Tryz.ntmps126
  go_upto_region 8 with fail
  generalize w.alloc (bxNd z) = W at hb0 c0 c1 c2 c3 c4 x0 x1 y0 hg ⊢
  have qx0 := cell_regrown x0
  have qx1 := cell_regrown x1
  have qy0 := cell_regrown y0
  have qc0 := cell_regrown c0
  have qc3 := cell_regrown c3
  have qc4 := cell_regrown c4
  refine wp_region_quiet_below (by kernel_rfl) (by kernel_rfl) ?_
  repeat (go_big_quiet_step (fail))
  refine wpQuiet_nil ?_
  intro _ hww2
  obtain ⟨⟨dq, osq⟩, hxw2⟩ := hww2
  subst hxw2
  have hb2 := below_regrown W dq osq
  clear qx0 qx1 qy0 qc0 qc3 qc4 c0 c1 c2 c3 c4 x0 x1 y0
  generalize Sort.grow (redrawn W dq) osq = w2 at hb2 ⊢
  go_wp2_with fail
  go_ret
  exact ⟨congrArg (fun x => Ending.returned (.string x)) (unhide HS), bt hb0 hb2⟩
set_option maxHeartbeats 4000000 in
set_option maxRecDepth 20000 in
theorem nodeText_4 (z : Nz) (i j : Nat) (x y : ByteArray) (a : Option Addr) (n c : Nat) (ts : List ByteArray) (s : ByteArray) (w : World) (hw : Wd w) (hr : RowTx w a n c ts) (hk : z.k = 4) (hA : z.A = (i : Int)) (hB : z.B = (j : Int)) (hx : ts[i]? = some x) (hy : ts[j]? = some y) (hxs : x.size ≤ 1000000) (hys : y.size ≤ 1000000) (HS : Hid ((⟨#[40]⟩ : ByteArray) ++ x ++ ⟨#[32]⟩ ++ wordT 4 ++ ⟨#[32]⟩ ++ y ++ ⟨#[41]⟩ = s)) :
    Calls Tryz.prog 126 #[aggN z, .slice a n c] w fun e w' => e = .returned (.string s) ∧ Below w.heap.size w w' := by
  have hb0 := below_new w (bxNd z)
  have T0 := bn_of (heap_alloc_new w (bxNd z))
  have hr1 := hr.on hb0
  have hw1 := hw.on hb0
  obtain ⟨g, o, rfl, hg, hc, hin, hnc⟩ := hr1.up hx
  have x0 := hc i x hx
  have x1 := hc j y hy
  have hjn : j < n := (hr1.up hy).choose_spec.choose_spec.2.2.2.1
  have y0 := hw1 4 (by decide)
  have hws : (wordT 4).size ≤ 10 := by decide
  have d1 : (z.k == 1) = false := by rw [hk]; rfl
  have d3 : (z.k == 3) = false := by rw [hk]; rfl
  have d4 : (z.k == 4) = true := by rw [hk]; rfl
  have d8 : (z.k == 8) = false := by rw [hk]; rfl
  have i0 : (0 : Int) ≤ z.A := by omega
  have i1 : z.A < (n : Int) := by omega
  have i2 : z.A.toNat = i := by omega
  have b0 : (0 : Int) ≤ z.B := by omega
  have b1 : z.B < (n : Int) := by omega
  have b2 : z.B.toNat = j := by omega
  have j0 : (0 : Int) ≤ z.k := by omega
  have j1 : z.k < 9 := by omega
  have j2 : z.k.toNat = 4 := by omega
  generalize wordT 4 = u at y0 hws HS
  have t1 : (⟨#[32]⟩ : ByteArray).size = 1 := rfl
  have t2 : (⟨#[40]⟩ : ByteArray).size = 1 := rfl
  have t3 : (⟨#[41]⟩ : ByteArray).size = 1 := rfl
  have s1 : ¬ 9223372036854775807 < (⟨#[40]⟩ : ByteArray).size + x.size := by omega
  have s2 : ¬ 9223372036854775807 < ((⟨#[40]⟩ : ByteArray) ++ x).size + (⟨#[32]⟩ : ByteArray).size := by simp only [ByteArray.size_append]; omega
  have s3 : ¬ 9223372036854775807 < ((⟨#[40]⟩ : ByteArray) ++ x ++ ⟨#[32]⟩).size + u.size := by simp only [ByteArray.size_append]; omega
  have s4 : ¬ 9223372036854775807 < ((⟨#[40]⟩ : ByteArray) ++ x ++ ⟨#[32]⟩ ++ u).size + (⟨#[32]⟩ : ByteArray).size := by simp only [ByteArray.size_append]; omega
  have s5 : ¬ 9223372036854775807 < ((⟨#[40]⟩ : ByteArray) ++ x ++ ⟨#[32]⟩ ++ u ++ ⟨#[32]⟩).size + y.size := by simp only [ByteArray.size_append]; omega
  have s6 : ¬ 9223372036854775807 < ((⟨#[40]⟩ : ByteArray) ++ x ++ ⟨#[32]⟩ ++ u ++ ⟨#[32]⟩ ++ y).size + (⟨#[41]⟩ : ByteArray).size := by simp only [ByteArray.size_append]; omega
  clear t1 t2 t3
  obtain ⟨c0, c1, c2, c3, c4⟩ := T0
  clear hk hA hB hx hy hr hw hr1 hw1 hc hin hjn
  go_enter Tryz.func126, Tryz.ntmps126
  go_upto_region 8 with fail
  generalize w.alloc (bxNd z) = W at hb0 c0 c1 c2 c3 c4 x0 x1 y0 hg ⊢
  have qx0 := cell_regrown x0
  have qx1 := cell_regrown x1
  have qy0 := cell_regrown y0
  have qc0 := cell_regrown c0
  have qc3 := cell_regrown c3
  have qc4 := cell_regrown c4
  refine wp_region_quiet_below (by kernel_rfl) (by kernel_rfl) ?_
  repeat (go_big_quiet_step (fail))
  refine wpQuiet_nil ?_
  intro _ hww2
  obtain ⟨⟨dq, osq⟩, hxw2⟩ := hww2
  subst hxw2
  have hb2 := below_regrown W dq osq
  clear qx0 qx1 qy0 qc0 qc3 qc4 c0 c1 c2 c3 c4 x0 x1 y0
  generalize Sort.grow (redrawn W dq) osq = w2 at hb2 ⊢
  go_wp2_with fail
  go_ret
  exact ⟨congrArg (fun x => Ending.returned (.string x)) (unhide HS), bt hb0 hb2⟩
set_option maxHeartbeats 4000000 in
set_option maxRecDepth 20000 in
theorem nodeText_8 (z : Nz) (i j : Nat) (x y : ByteArray) (a : Option Addr) (n c : Nat) (ts : List ByteArray) (s : ByteArray) (w : World) (hw : Wd w) (hr : RowTx w a n c ts) (hk : z.k = 8) (hA : z.A = (i : Int)) (hB : z.B = (j : Int)) (hx : ts[i]? = some x) (hy : ts[j]? = some y) (hxs : x.size ≤ 1000000) (hys : y.size ≤ 1000000) (HS : Hid ((⟨#[40]⟩ : ByteArray) ++ x ++ ⟨#[32]⟩ ++ wordT 8 ++ ⟨#[32]⟩ ++ y ++ ⟨#[41]⟩ = s)) :
    Calls Tryz.prog 126 #[aggN z, .slice a n c] w fun e w' => e = .returned (.string s) ∧ Below w.heap.size w w' := by
  have hb0 := below_new w (bxNd z)
  have T0 := bn_of (heap_alloc_new w (bxNd z))
  have hr1 := hr.on hb0
  have hw1 := hw.on hb0
  obtain ⟨g, o, rfl, hg, hc, hin, hnc⟩ := hr1.up hx
  have x0 := hc i x hx
  have x1 := hc j y hy
  have hjn : j < n := (hr1.up hy).choose_spec.choose_spec.2.2.2.1
  have y0 := hw1 8 (by decide)
  have hws : (wordT 8).size ≤ 10 := by decide
  have d1 : (z.k == 1) = false := by rw [hk]; rfl
  have d3 : (z.k == 3) = false := by rw [hk]; rfl
  have d4 : (z.k == 4) = false := by rw [hk]; rfl
  have d8 : (z.k == 8) = true := by rw [hk]; rfl
  have i0 : (0 : Int) ≤ z.A := by omega
  have i1 : z.A < (n : Int) := by omega
  have i2 : z.A.toNat = i := by omega
  have b0 : (0 : Int) ≤ z.B := by omega
  have b1 : z.B < (n : Int) := by omega
  have b2 : z.B.toNat = j := by omega
  have j0 : (0 : Int) ≤ z.k := by omega
  have j1 : z.k < 9 := by omega
  have j2 : z.k.toNat = 8 := by omega
  generalize wordT 8 = u at y0 hws HS
  have t1 : (⟨#[32]⟩ : ByteArray).size = 1 := rfl
  have t2 : (⟨#[40]⟩ : ByteArray).size = 1 := rfl
  have t3 : (⟨#[41]⟩ : ByteArray).size = 1 := rfl
  have s1 : ¬ 9223372036854775807 < (⟨#[40]⟩ : ByteArray).size + x.size := by omega
  have s2 : ¬ 9223372036854775807 < ((⟨#[40]⟩ : ByteArray) ++ x).size + (⟨#[32]⟩ : ByteArray).size := by simp only [ByteArray.size_append]; omega
  have s3 : ¬ 9223372036854775807 < ((⟨#[40]⟩ : ByteArray) ++ x ++ ⟨#[32]⟩).size + u.size := by simp only [ByteArray.size_append]; omega
  have s4 : ¬ 9223372036854775807 < ((⟨#[40]⟩ : ByteArray) ++ x ++ ⟨#[32]⟩ ++ u).size + (⟨#[32]⟩ : ByteArray).size := by simp only [ByteArray.size_append]; omega
  have s5 : ¬ 9223372036854775807 < ((⟨#[40]⟩ : ByteArray) ++ x ++ ⟨#[32]⟩ ++ u ++ ⟨#[32]⟩).size + y.size := by simp only [ByteArray.size_append]; omega
  have s6 : ¬ 9223372036854775807 < ((⟨#[40]⟩ : ByteArray) ++ x ++ ⟨#[32]⟩ ++ u ++ ⟨#[32]⟩ ++ y).size + (⟨#[41]⟩ : ByteArray).size := by simp only [ByteArray.size_append]; omega
  clear t1 t2 t3
  obtain ⟨c0, c1, c2, c3, c4⟩ := T0
  clear hk hA hB hx hy hr hw hr1 hw1 hc hin hjn
  go_enter Tryz.func126, Tryz.ntmps126
  go_upto_region 8 with fail
  generalize w.alloc (bxNd z) = W at hb0 c0 c1 c2 c3 c4 x0 x1 y0 hg ⊢
  have qx0 := cell_regrown x0
  have qx1 := cell_regrown x1
  have qy0 := cell_regrown y0
  have qc0 := cell_regrown c0
  have qc3 := cell_regrown c3
  have qc4 := cell_regrown c4
  refine wp_region_quiet_below (by kernel_rfl) (by kernel_rfl) ?_
  repeat (go_big_quiet_step (fail))
  refine wpQuiet_nil ?_
  intro _ hww2
  obtain ⟨⟨dq, osq⟩, hxw2⟩ := hww2
  subst hxw2
  have hb2 := below_regrown W dq osq
  clear qx0 qx1 qy0 qc0 qc3 qc4 c0 c1 c2 c3 c4 x0 x1 y0
  generalize Sort.grow (redrawn W dq) osq = w2 at hb2 ⊢
  go_wp2_with fail
  go_ret
  exact ⟨congrArg (fun x => Ending.returned (.string x)) (unhide HS), bt hb0 hb2⟩
end Go.Proofs.YtcjnhhbcleljmaaGreatDoor.Sb
namespace Go.Proofs.YtcjnhhbcleljmaaGreatDoor.Sb
open Go.RowKit
open V

def fchk (b : Bool) : Int := if b = true then 0 else 17
set_option maxHeartbeats 2000000 in
theorem fcheck_any (a : Option Addr) (n c : Nat) (zs : List Nz) (r : Int) (w : World) (hA : LiesN w a n c zs) (hL : ∀ z ∈ zs, z.Light) (hn : n ≤ 20000) (H : Hid (fchk (rightFm (zs.map Nz.pl)) = r)) :
    Calls Tryz.prog 38 #[.slice a n c] w fun e w' => e = .returned (.int .i64 r) ∧ Below w.heap.size w w' := by
  have F := hide (subtrees_any a n c zs w hA hL hn)
  clear hA hL
  go_enter Tryz.func38, Tryz.ntmps38
  go_wp2_with fail
  refine (unhide F).mono ?_
  rintro e w1 ⟨hr, hb1⟩
  have HR := hide hr
  clear F
  rcases hr with ⟨hf, v, rfl⟩ | ⟨hf, p, m, cp, T, rfl, -, -⟩
  · have HQ : Hid (17 = r) := hide (by rw [← unhide H, hf]; rfl)
    clear hf HR
    go_wp2_with fail
    go_ret
    exact ⟨congrArg (fun i => Ending.returned (.int .i64 i)) (unhide HQ), hb1⟩
  · have HQ : Hid (0 = r) := hide (by rw [← unhide H, hf]; rfl)
    clear hf HR
    go_wp2_with fail
    go_ret
    exact ⟨congrArg (fun i => Ending.returned (.int .i64 i)) (unhide HQ), hb1⟩
/-- What From tells. -/
def FromR (l : List Np) (at_ i : Int) : Prop := (¬ (rightFm l = true ∧ 0 ≤ at_ ∧ at_ < (l.length : Int)) ∧ i = -1) ∨ ∃ (T : List Tr) (k : Nat) (t : Tr), rightFm l = true ∧ at_ = (k : Int) ∧ k < l.length ∧ growL [] l = some T ∧ T[k]? = some t ∧ i = (t.1 : Int)
def FromE (l : List Np) (at_ : Int) (e : Ending) : Prop := ∃ i, e = .returned (.int .i64 i) ∧ FromR l at_ i
theorem FromE.of {l : List Np} {at_ i : Int} (h : FromR l at_ i) : FromE l at_ (.returned (.int .i64 i)) := ⟨i, rfl, h⟩
set_option maxHeartbeats 2000000 in
set_option maxRecDepth 20000 in
theorem from_any (a : Option Addr) (n c : Nat) (zs : List Nz) (at_ : Int) (w : World) (hA : LiesN w a n c zs) (hL : ∀ z ∈ zs, z.Light) (hn : n ≤ 20000) :
    Calls Tryz.prog 33 #[.slice a n c, .int .i64 at_] w fun e w' => FromE (zs.map Nz.pl) at_ e ∧ Below w.heap.size w w' := by
  have F := hide (subtrees_any a n c zs w hA hL hn)
  have hle := hA.le
  have hge := hA.ge
  have hlm : (zs.map Nz.pl).length = n := by rw [List.length_map]; omega
  have HLM := hide hlm
  clear hA hL hle hge hlm
  go_enter Tryz.func33, Tryz.ntmps33
  go_wp2_with fail
  refine (unhide F).mono ?_
  rintro e w1 ⟨hr, hb1⟩
  clear F
  rcases hr with ⟨hf, v, rfl⟩ | ⟨hf, p, m, cp, T, rfl, hT, ho⟩
  · have HR : Hid (FromR (zs.map Nz.pl) at_ (-1)) := hide (Or.inl ⟨fun h => (by rw [hf] at h; cases h.1), rfl⟩)
    clear hf
    go_wp2_with fail
    go_ret
    exact ⟨FromE.of (unhide HR), hb1⟩
  · have hTl : T.length = n := by rw [growL_len hT]; exact unhide HLM
    have HF := hide hf
    have HT := hide hT
    have HO := hide ho
    clear hf hT ho
    by_cases h0 : at_ < 0
    · have d0 : decide (at_ < 0) = true := decide_eq_true h0
      have HR : Hid (FromR (zs.map Nz.pl) at_ (-1)) := hide (Or.inl ⟨fun h => (by omega), rfl⟩)
      clear h0 HF HT HO hTl
      go_wp2_with fail
      go_ret
      exact ⟨FromE.of (unhide HR), hb1⟩
    · have d0 : decide (at_ < 0) = false := decide_eq_false h0
      by_cases h1 : (n : Int) ≤ at_
      · have d1 : decide ((n : Int) ≤ at_) = true := decide_eq_true h1
        have HR : Hid (FromR (zs.map Nz.pl) at_ (-1)) := hide (Or.inl ⟨fun h => (by have := h.2.2; rw [unhide HLM] at this; omega), rfl⟩)
        clear h0 h1 HF HT HO hTl
        go_wp2_with fail
        go_ret
        exact ⟨FromE.of (unhide HR), hb1⟩
      · have d1 : decide ((n : Int) ≤ at_) = false := decide_eq_false h1
        obtain ⟨k, rfl⟩ : ∃ k : Nat, at_ = (k : Int) := ⟨at_.toNat, by omega⟩
        have hk : k < T.length := by omega
        have hkt : T[k]? = some T[k] := List.getElem?_eq_getElem hk
        have HR : Hid (FromR (zs.map Nz.pl) (k : Int) (T[k].1 : Int)) := hide (Or.inr ⟨T, k, T[k], unhide HF, rfl, by rw [unhide HLM]; omega, unhide HT, hkt, rfl⟩)
        have hq := liesQ_own (ts := T.map qT) (n := m) (by rw [List.length_map]; exact unhide HO)
        have hml : m = T.length := by have h1 := hq.le; have h2 := hq.ge; rw [List.length_map] at h1 h2; omega
        have d1n : ¬ n ≤ k := by omega
        obtain ⟨b, o, ha, hbl, x0, -⟩ := hq.row.up (i := k) (by rw [List.length_map]; omega)
        have hgu : (T.map qT)[k]'(by rw [List.length_map]; omega) = qT T[k] := List.getElem_map _
        rw [hgu] at x0
        have hcap := hq.cap
        have i0 : (0 : Int) ≤ (k : Int) := by omega
        have i1 : (k : Int) < (m : Int) := by omega
        generalize T[k] = u at HR x0 hkt hgu
        subst ha
        clear h0 h1 HF HT HO hTl hkt hgu hq hml
        go_wp2_with fail
        go_ret
        exact ⟨FromE.of (unhide HR), hb1⟩
end Go.Proofs.YtcjnhhbcleljmaaGreatDoor.Sb
namespace Go.Proofs.YtcjnhhbcleljmaaGreatDoor.Sb
open Go.RowKit
open V

theorem bs_size (l : List UInt8) : (bs l).size = l.length := by
  show l.toArray.size = l.length
  simp
theorem wordT_bs {k : Nat} (h : 2 ≤ k) : wordT k = bs (wordN k) := by unfold wordT; rw [if_neg (by omega)]
theorem nodeText_any (l : List Np) (hr : rightFm l = true) (k : Nat) (hk : k < l.length) (z : Nz) (hz : z.pl = l[k]) (a : Option Addr) (n c : Nat) (s : ByteArray) (w : World) (he : Env w) (hw : Wd w) (hi : z.In w) (ht : RowTx w a n c ((textT (l.take k)).map bs)) (HS : Hid (bs (nodeT (textT (l.take k)) l[k]) = s)) :
    Calls Tryz.prog 126 #[aggN z, .slice a n c] w fun e w' => e = .returned (.string s) ∧ Below w.heap.size w w' := by
  have hn := right_node hr hk
  have hlen : (textT (l.take k)).length = k := by rw [textT_len, List.length_take]; omega
  have get : ∀ j : Nat, j < k → ∃ x, (textT (l.take k))[j]? = some x ∧ x.length ≤ 28400 ∧ ((textT (l.take k)).map bs)[j]? = some (bs x) ∧ (textT (l.take k)).getD j [] = x := fun j hj => by
    have h1 : (textT (l.take k))[j]? = some (textT (l.take k))[j] := List.getElem?_eq_getElem (by omega)
    exact ⟨_, h1, textT_bound hr k _ (List.getElem_mem (by omega)), by rw [List.getElem?_map, h1]; rfl, by rw [List.getD_eq_getElem?_getD, h1]; rfl⟩
  have HS' := unhide HS
  rw [← hz] at hn HS'
  unfold nodeT valNd at HS'
  rcases hn with ⟨h1, ha⟩ | ⟨h1, j, hA, hj⟩ | ⟨h1, i, j, hA, hj, hB, hib⟩
  · rw [if_pos h1] at HS'
    exact nodeText_is z a n c s w he hi h1 (hide ha) (hide HS')
  · rw [if_neg (one_ne h1).1, if_neg (by rw [one_not_two h1]; decide), hA] at HS'
    obtain ⟨x, g1, g2, g3, g4⟩ := get j hj
    rw [Int.toNat_natCast, g4] at HS'
    have hkk : z.k = ((z.k.toNat : Nat) : Int) := by
      rcases oneK_iff.1 (show oneK z.k = true from h1) with e | e | e | e <;> omega
    have h2 : 2 ≤ z.k.toNat := by rcases oneK_iff.1 (show oneK z.k = true from h1) with e | e | e | e <;> omega
    refine nodeText_one z z.k.toNat j (bs x) a n c _ s w hw ht hkk h1 hA g3 (by rw [bs_size]; omega) (hide ?_)
    rw [← HS', wordT_bs h2, ← hkk]
    apply bytes_ext
    simp [ByteArray.data_append, oneT, Nz.pl]
  · rw [if_neg (two_ne h1).1, if_pos h1, hA, hB] at HS'
    obtain ⟨x, g1, g2, g3, g4⟩ := get j hj
    obtain ⟨y, k1, k2, k3, k4⟩ := get i hib
    rw [Int.toNat_natCast, Int.toNat_natCast, g4, k4] at HS'
    have key : ∀ m : Nat, z.k = (m : Int) → 2 ≤ m → (⟨#[40]⟩ : ByteArray) ++ bs x ++ ⟨#[32]⟩ ++ wordT m ++ ⟨#[32]⟩ ++ bs y ++ ⟨#[41]⟩ = s := fun m hm h2 => by
      rw [← HS', wordT_bs h2, ← hm]
      apply bytes_ext
      simp [ByteArray.data_append, twoTx, Nz.pl]
    rcases twoK_iff.1 (show twoK z.k = true from h1) with e | e | e
    · exact nodeText_3 z j i (bs x) (bs y) a n c _ s w hw ht e hA hB g3 k3 (by rw [bs_size]; omega) (by rw [bs_size]; omega) (hide (key 3 e (by decide)))
    · exact nodeText_4 z j i (bs x) (bs y) a n c _ s w hw ht e hA hB g3 k3 (by rw [bs_size]; omega) (by rw [bs_size]; omega) (hide (key 4 e (by decide)))
    · exact nodeText_8 z j i (bs x) (bs y) a n c _ s w hw ht e hA hB g3 k3 (by rw [bs_size]; omega) (by rw [bs_size]; omega) (hide (key 8 e (by decide)))
theorem rowTx_own {w : World} {B n cap : Nat} {a : Option Addr} {ts : List ByteArray} (h : w.ownsRow B 9 1 (.slice a n cap) n (flatS ts)) : RowTx w a n cap ts := by
  have hn : n = ts.length := by have := h.1; simp [flatS] at this; omega
  by_cases h0 : 0 < n
  · obtain ⟨g, rfl, hg, _, hc, hx⟩ := own_texts h h0
    exact ⟨⟨hc, hn⟩, Or.inr ⟨g, 0, rfl, hg, hx⟩⟩
  · have hz : ts = [] := List.eq_nil_of_length_eq_zero (by omega)
    exact ⟨⟨by omega, hn⟩, Or.inl hz⟩
set_option maxHeartbeats 4000000 in
set_option maxRecDepth 20000 in
theorem formulaText_any (a : Option Addr) (n c : Nat) (zs : List Nz) (s : ByteArray) (w : World) (he : Env w) (hw : Wd w) (hA : LiesN w a n c zs) (H : Hid (rightFm (zs.map Nz.pl) = true)) (HS : Hid (bs (textN 0 (zs.map Nz.pl)) = s)) :
    Calls Tryz.prog 72 #[.slice a n c] w fun e w' => e = .returned (.string s) ∧ Below w.heap.size w w' := by
  have hle := hA.le
  have hge := hA.ge
  have h40 := (rightFm_iff.1 (unhide H)).1
  rw [List.length_map] at h40
  have HLM : Hid ((zs.map Nz.pl).length = zs.length) := hide (List.length_map _)
  go_enter Tryz.func72, Tryz.ntmps72
  go_wp2_with fail
  go_loopw [3, 8] (fun v i wr => ∃ (k cap : Nat) (ao : Option Addr), k ≤ n ∧ i = .int .i64 k ∧ v = .slice ao k cap ∧ Hid (wr.ownsRow w.heap.size 9 1 (.slice ao k cap) k (flatS ((textT ((zs.map Nz.pl).take k)).map bs))) ∧ Below w.heap.size w wr) (fun _ i _ => n - (intOf i).toNat)
  case atStart => exact ⟨0, 0, none, Nat.zero_le _, rfl, rfl, hide (World.ownsRow_nil _ _ _ _), Below.refl _ _⟩
  case round =>
    obtain ⟨k, cap, ao, hk, rfl, rfl, HO, hbw⟩ := hrel
    have hA1 := hA.on hbw
    by_cases hlt : k < n
    · have hk' : k < zs.length := by omega
      obtain ⟨b, o, ha, hbl, e0, e1, e2, e3, e4⟩ := hA1.row.up hk'
      have hz := hA1.all _ (List.getElem_mem hk')
      have hkl : k < (zs.map Nz.pl).length := by rw [unhide HLM]; exact hk'
      have HT := hide (textT_snoc hkl)
      have HZ : Hid (zs[k].pl = (zs.map Nz.pl)[k]) := hide (List.getElem_map _).symm
      subst ha
      clear hA1
      generalize zs[k] = z at e0 e1 e2 e3 e4 hz HZ
      obtain ⟨t, ht⟩ : ∃ t, bs (nodeT (textT ((zs.map Nz.pl).take k)) (zs.map Nz.pl)[k]) = t := ⟨_, rfl⟩
      have HT2 : Hid ((textT ((zs.map Nz.pl).take (k + 1))).map bs = (textT ((zs.map Nz.pl).take k)).map bs ++ [t]) := hide (by rw [unhide HT, List.map_append, ← ht]; rfl)
      have hbx := below_new wr (bxNd z)
      have T1 := bn_of (heap_alloc_new wr (bxNd z))
      have hz1 := hz.on hbx
      have HO1 := hide (own_on (unhide HO) hbx)
      have hb1 := bt hbw hbx
      have F := hide (fun W (hV : Below w.heap.size w W) (hi : z.In W) (hR : RowTx W ao k cap ((textT ((zs.map Nz.pl).take k)).map bs)) => nodeText_any (zs.map Nz.pl) (unhide H) k hkl z (unhide HZ) ao k cap t W (he.on hV) (hw.on hV) hi hR (hide ht))
      clear HT HZ
      go_upto_region 5 with fail
      clear e0 e1 e2 e3 e4 hbl hz hbx ht
      generalize wr.alloc (bxNd z) = W at T1 hz1 HO1 hb1 ⊢
      obtain ⟨c0, c1, c2, c3, c4⟩ := T1
      have F2 := hide (unhide F W hb1 hz1 (rowTx_own (unhide HO1)))
      go_wp2_with fail
      refine (unhide F2).mono ?_
      rintro e w2 ⟨rfl, hb2⟩
      have hby := below_new w2 (.cells #[.string t] 9)
      have hown := own_on (own_on (unhide HO1) hb2) hby
      have hnew := hide (heap_alloc_new w2 (.cells #[.string t] 9))
      have hbw1 := bt (bt hb1 hb2) hby
      have hsz := hbw1.size
      clear F F2 HO HO1 hb1 hb2 hby c0 c1 c2 c3 c4 hz1
      go_wp2_with (at_builtin; refine app_s rfl _ _ rfl w.heap.size k (.slice ao k cap) ((textT ((zs.map Nz.pl).take k)).map bs) t w2.heap.size rfl rfl hown hnew (by omega) hsz ?_)
      intro ao2 cp2 w3 hr2 hg2
      have hbw2 := hbw1.grown hg2 hsz (fun j hj => (hown.lt j hj).1)
      rw [← unhide HT2] at hr2
      have HO2 := hide hr2
      clear hown hnew hg2 hbw1 hr2
      go_wp2_with fail
      go_roundw
      case rel => exact ⟨k + 1, cp2, ao2, by omega, by go_num, rfl, HO2, hbw2⟩
      case measure => simp [intOf]; omega
    · have hkn : k = n := by omega
      subst hkn
      have HO2 : Hid (wr.ownsRow w.heap.size 9 1 (.slice ao k cap) k (flatS ((textT (zs.map Nz.pl)).map bs))) := hide (by
        have := unhide HO
        rwa [List.take_of_length_le (by rw [unhide HLM]; omega)] at this)
      have hpos : 0 < k := by omega
      have hlast := textT_last (unhide H)
      rw [List.getLast?_eq_getElem?, textT_len, unhide HLM] at hlast
      have hx : ((textT (zs.map Nz.pl)).map bs)[k - 1]? = some s := by
        rw [List.getElem?_map, show k - 1 = zs.length - 1 by omega, hlast, ← unhide HS]; rfl
      obtain ⟨g, o, ha, hg, hc, hin, hnc⟩ := (rowTx_own (unhide HO2)).up hx
      have x0 := hc (k - 1) s hx
      subst ha
      have i0 : (0 : Int) ≤ (k : Int) - 1 := by omega
      have i1 : (k : Int) - 1 < (k : Int) := by omega
      have i2 : ((k : Int) - 1).toNat = k - 1 := by omega
      clear hlast hx hc HO HO2 hA1 hin
      go_wp2_with fail
      go_ret
      exact ⟨rfl, hbw⟩
/-- What Text, Pattern tell. -/
def FitR (t : List UInt8) (e : Ending) : Prop := (t.length ≤ 20000 ∧ e = .returned (.tuple #[.string (bs t), .int .i64 0])) ∨ (¬ t.length ≤ 20000 ∧ e = .returned (.tuple #[.string ⟨#[]⟩, .int .i64 2]))
def TextR (q : Bool) (t : List UInt8) (e : Ending) : Prop := (q = false ∧ e = .returned (.tuple #[.string ⟨#[]⟩, .int .i64 17])) ∨ (q = true ∧ FitR t e)
theorem bounded_any (t : List UInt8) (s : ByteArray) (w : World) (hs : Hid (bs t = s)) : Calls Tryz.prog 71 #[.string s] w fun e w' => FitR t e ∧ Below w.heap.size w w' := by
  have h := bs_size t
  rw [unhide hs] at h
  by_cases h2 : s.size ≤ 20000
  · exact (bounded_right s w h2).mono (fun e w' hh => ⟨Or.inl ⟨by omega, by rw [hh.1, unhide hs]⟩, hh.2 ▸ Below.refl _ _⟩)
  · exact (bounded_long s w h2).mono (fun e w' hh => ⟨Or.inr ⟨by omega, hh.1⟩, hh.2 ▸ Below.refl _ _⟩)
set_option maxHeartbeats 4000000 in
theorem ftext_any (a : Option Addr) (n c : Nat) (zs : List Nz) (w : World) (he : Env w) (hw : Wd w) (hA : LiesN w a n c zs) (hL : ∀ z ∈ zs, z.Light) (hn : n ≤ 20000) :
    Calls Tryz.prog 25 #[.slice a n c] w fun e w' => TextR (rightFm (zs.map Nz.pl)) (textN 0 (zs.map Nz.pl)) e ∧ Below w.heap.size w w' := by
  cases hq : rightFm (zs.map Nz.pl) with
  | false =>
    have F := hide (fcheck_any a n c zs 17 w hA hL hn (hide (by rw [hq]; rfl)))
    clear hA hL he hw hq
    go_enter Tryz.func25, Tryz.ntmps25
    go_wp2_with fail
    refine (unhide F).mono ?_
    rintro e w1 ⟨rfl, hb1⟩
    clear F
    go_wp2_with fail
    refine bodyPost_ret (v := .tuple #[.string ⟨#[]⟩, .int .i64 17]) (by simp [results, Tryz.results25, go_sem]) rfl ?_
    exact ⟨Or.inl ⟨rfl, rfl⟩, hb1⟩
  | true =>
    have F := hide (fcheck_any a n c zs 0 w hA hL hn (hide (by rw [hq]; rfl)))
    generalize htt : textN 0 (zs.map Nz.pl) = t
    obtain ⟨s, hs⟩ : ∃ s, bs t = s := ⟨_, rfl⟩
    have F2 := hide (fun W (hV : Below w.heap.size w W) => formulaText_any a n c zs s W (he.on hV) (hw.on hV) (hA.on hV) (hide hq) (hide (by rw [htt]; exact hs)))
    have F3 := hide (fun W => bounded_any t s W (hide hs))
    clear hA hL he hw hq hs htt
    go_enter Tryz.func25, Tryz.ntmps25
    go_wp2_with fail
    refine (unhide F).mono ?_
    rintro e w1 ⟨rfl, hb1⟩
    clear F
    go_wp2_with fail
    refine (unhide F2 w1 hb1).mono ?_
    rintro e w2 ⟨rfl, hb2⟩
    clear F2
    go_wp2_with fail
    refine (unhide F3 w2).mono ?_
    rintro e w3 ⟨hf, hb3⟩
    have hw3 := bt (bt hb1 hb2) hb3
    clear F3 hb1 hb2 hb3
    rcases hf with ⟨h, rfl⟩ | ⟨h, rfl⟩
    · have HH := hide (show FitR t (.returned (.tuple #[.string (bs t), .int .i64 0])) from Or.inl ⟨h, rfl⟩)
      clear h
      go_wp2_with fail
      refine bodyPost_ret (v := .tuple #[.string (bs t), .int .i64 0]) (by simp [results, Tryz.results25, go_sem]) rfl ?_
      exact ⟨Or.inr ⟨rfl, unhide HH⟩, hw3⟩
    · have HH := hide (show FitR t (.returned (.tuple #[.string ⟨#[]⟩, .int .i64 2])) from Or.inr ⟨h, rfl⟩)
      clear h
      go_wp2_with fail
      refine bodyPost_ret (v := .tuple #[.string ⟨#[]⟩, .int .i64 2]) (by simp [results, Tryz.results25, go_sem]) rfl ?_
      exact ⟨Or.inr ⟨rfl, unhide HH⟩, hw3⟩
end Go.Proofs.YtcjnhhbcleljmaaGreatDoor.Sb
namespace Go.Proofs.YtcjnhhbcleljmaaGreatDoor.Sb
open Go.RowKit
open V

/-- A pattern, as it is handed on: name, trigger, nodes. -/
structure Pz where
  n : ByteArray
  tn : ByteArray
  ta : Option Addr
  tm : Nat
  tc : Nat
  ts : List Bb
  na : Option Addr
  nl : Nat
  nc : Nat
  zs : List Nz
def Pz.pl (p : Pz) : Pp := (p.n.data.toList, (p.tn.data.toList, p.ts), p.zs.map Nz.pl)
structure Pz.In (p : Pz) (w : World) : Prop where
  t : Lies w p.ta p.tm p.tc p.ts
  z : LiesN w p.na p.nl p.nc p.zs
theorem Pz.In.on {p : Pz} {w w' : World} (h : p.In w) (hb : Below w.heap.size w w') : p.In w' := ⟨h.t.on hb, h.z.on hb⟩
structure Pz.Light (p : Pz) : Prop where
  n : p.n.size ≤ 200
  tn : p.tn.size ≤ 200
  tm : p.tm ≤ 20
  t : ∀ t ∈ p.ts, Lt t
  l : p.nl ≤ 20000
  z : ∀ z ∈ p.zs, z.Light
abbrev bxPt (p : Pz) : Obj := .cells #[.string p.n, .string p.tn, .slice p.ta p.tm p.tc, .slice p.na p.nl p.nc] 48
abbrev aggP (p : Pz) : Value := .agg #[.string p.n, .string p.tn, .slice p.ta p.tm p.tc, .slice p.na p.nl p.nc]
structure BPt (W : World) (b : Nat) (p : Pz) : Prop where
  c0 : W.cell? ⟨b, 0, none⟩ = some (.string p.n)
  c1 : W.cell? ⟨b, 1, none⟩ = some (.string p.tn)
  c2 : W.cell? ⟨b, 2, none⟩ = some (.slice p.ta p.tm p.tc)
  c3 : W.cell? ⟨b, 3, none⟩ = some (.slice p.na p.nl p.nc)
theorem bpt_of {W : World} {b : Nat} {p : Pz} (h : W.heap[b]? = some (bxPt p)) : BPt W b p := by
  refine ⟨?_, ?_, ?_, ?_⟩ <;> (rw [Lib.cell_of_heap h]; rfl)
theorem BPt.on {W w1 : World} {b : Nat} {p : Pz} (T : BPt W b p) (hb : Below W.heap.size W w1) : BPt w1 b p :=
  ⟨cell_on hb T.c0, cell_on hb T.c1, cell_on hb T.c2, cell_on hb T.c3⟩
set_option maxHeartbeats 4000000 in
theorem fisRight_any (p : Pz) (q : Bool) (w : World) (hi : p.In w) (hL : p.Light) (H : Hid (rightP p.pl = q)) :
    Calls Tryz.prog 73 #[aggP p] w fun e w' => e = .returned (.bool q) ∧ Below w.heap.size w w' := by
  have hb0 := below_new w (bxPt p)
  have T0 := bpt_of (heap_alloc_new w (bxPt p))
  have hi0 := hi.on hb0
  have F := hide (name_any p.n (w.alloc (bxPt p)) (by have := hL.n; unfold maxLen; omega))
  have HH := unhide H
  unfold rightP Pz.pl at HH
  simp only at HH
  clear hi
  cases hn : nameB p.n.data.toList with
  | false =>
    have HQ := hide (show false = q by rw [← HH, hn]; rfl)
    rw [hn] at F
    obtain ⟨c0, c1, c2, c3⟩ := T0
    clear HH hn H hL hi0
    go_enter Tryz.func73, Tryz.ntmps73
    go_wp2_with fail
    refine (unhide F).mono ?_
    rintro e w1 ⟨rfl, hb1⟩
    clear F c0 c1 c2 c3
    go_wp2_with fail
    go_ret
    exact ⟨ret_bool' (unhide HQ), bt hb0 hb1⟩
  | true =>
    rw [hn] at F
    cases ha : V.rightA (p.tn.data.toList, p.ts) with
    | false =>
      have HQ := hide (show false = q by rw [← HH, hn, ha]; rfl)
      have F2 := hide (fun V (hV : Below (w.alloc (bxPt p)).heap.size (w.alloc (bxPt p)) V) => acheck_is p.tn p.ta p.tm p.tc p.ts false V hL.tn hL.t (hi0.t.on hV) (by have := hL.tm; omega) (hide ha))
      clear HH hn H hL ha hi0
      go_enter Tryz.func73, Tryz.ntmps73
      obtain ⟨c0, c1, c2, c3⟩ := T0
      go_wp2_with fail
      refine (unhide F).mono ?_
      rintro e w1 ⟨rfl, hb1⟩
      have T1 := (BPt.mk (p := p) c0 c1 c2 c3).on hb1
      clear F c0 c1 c2 c3
      obtain ⟨c0, c1, c2, c3⟩ := T1
      go_wp2_with fail
      refine (unhide F2 w1 hb1).mono ?_
      rintro e w2 ⟨rfl, hb2⟩
      clear F2 c0 c1 c2 c3
      go_wp2_with fail
      go_ret
      exact ⟨ret_bool' (unhide HQ), bt hb0 (bt hb1 hb2)⟩
    | true =>
      have HQ := hide (show rightFm (p.zs.map Nz.pl) = q by rw [← HH, hn, ha]; rfl)
      have F2 := hide (fun V (hV : Below (w.alloc (bxPt p)).heap.size (w.alloc (bxPt p)) V) => acheck_is p.tn p.ta p.tm p.tc p.ts true V hL.tn hL.t (hi0.t.on hV) (by have := hL.tm; omega) (hide ha))
      have F3 := hide (fun (r : Int) V (hV : Below (w.alloc (bxPt p)).heap.size (w.alloc (bxPt p)) V) h => fcheck_any p.na p.nl p.nc p.zs r V (hi0.z.on hV) hL.z hL.l h)
      clear HH hn H hL ha hi0
      obtain ⟨c0, c1, c2, c3⟩ := T0
      cases q with
      | false =>
        have F4 := hide (fun V hV => unhide F3 17 V hV (hide (by rw [unhide HQ]; rfl)))
        clear F3
        go_enter Tryz.func73, Tryz.ntmps73
        go_wp2_with fail
        refine (unhide F).mono ?_
        rintro e w1 ⟨rfl, hb1⟩
        have T1 := (BPt.mk (p := p) c0 c1 c2 c3).on hb1
        clear F c0 c1 c2 c3
        obtain ⟨c0, c1, c2, c3⟩ := T1
        go_wp2_with fail
        refine (unhide F2 w1 hb1).mono ?_
        rintro e w2 ⟨rfl, hb2⟩
        have T2 := (BPt.mk (p := p) c0 c1 c2 c3).on hb2
        clear F2 c0 c1 c2 c3
        obtain ⟨c0, c1, c2, c3⟩ := T2
        go_wp2_with fail
        refine (unhide F4 w2 (bt hb1 hb2)).mono ?_
        rintro e w3 ⟨rfl, hb3⟩
        clear F4 c0 c1 c2 c3
        go_wp2_with fail
        go_ret
        exact ⟨rfl, bt hb0 (bt hb1 (bt hb2 hb3))⟩
      | true =>
        have F4 := hide (fun V hV => unhide F3 0 V hV (hide (by rw [unhide HQ]; rfl)))
        clear F3
        go_enter Tryz.func73, Tryz.ntmps73
        go_wp2_with fail
        refine (unhide F).mono ?_
        rintro e w1 ⟨rfl, hb1⟩
        have T1 := (BPt.mk (p := p) c0 c1 c2 c3).on hb1
        clear F c0 c1 c2 c3
        obtain ⟨c0, c1, c2, c3⟩ := T1
        go_wp2_with fail
        refine (unhide F2 w1 hb1).mono ?_
        rintro e w2 ⟨rfl, hb2⟩
        have T2 := (BPt.mk (p := p) c0 c1 c2 c3).on hb2
        clear F2 c0 c1 c2 c3
        obtain ⟨c0, c1, c2, c3⟩ := T2
        go_wp2_with fail
        refine (unhide F4 w2 (bt hb1 hb2)).mono ?_
        rintro e w3 ⟨rfl, hb3⟩
        clear F4 c0 c1 c2 c3
        go_wp2_with fail
        go_ret
        exact ⟨rfl, bt hb0 (bt hb1 (bt hb2 hb3))⟩
set_option maxHeartbeats 4000000 in
set_option maxRecDepth 20000 in
theorem pattern_any (p : Pz) (w : World) (he : Env w) (hw : Wd w) (hi : p.In w) (hL : p.Light) :
    Calls Tryz.prog 26 #[aggP p] w fun e w' => TextR (rightP p.pl) (textP p.pl) e ∧ Below w.heap.size w w' := by
  have hb0 := below_new w (bxPt p)
  have T0 := bpt_of (heap_alloc_new w (bxPt p))
  have hi0 := hi.on hb0
  cases hq : rightP p.pl with
  | false =>
    have F := hide (fisRight_any p false (w.alloc (bxPt p)) hi0 hL (hide hq))
    obtain ⟨c0, c1, c2, c3⟩ := T0
    clear hi0 hi hL he hw hq
    go_enter Tryz.func26, Tryz.ntmps26
    go_wp2_with fail
    refine (unhide F).mono ?_
    rintro e w1 ⟨rfl, hb1⟩
    clear F c0 c1 c2 c3
    go_wp2_with fail
    refine bodyPost_ret (v := .tuple #[.string ⟨#[]⟩, .int .i64 17]) (by simp [results, Tryz.results26, go_sem]) rfl ?_
    exact ⟨Or.inl ⟨rfl, rfl⟩, bt hb0 hb1⟩
  | true =>
    have F := hide (fisRight_any p true (w.alloc (bxPt p)) hi0 hL (hide hq))
    obtain ⟨h1, h2, h3⟩ := rightP_iff.1 hq
    have hln : p.n.size ≤ 200 := hL.n
    have ht1 : (textA (p.tn.data.toList, p.ts)).length ≤ 700 := textA_len h2
    have ht2 : (textN 0 (p.zs.map Nz.pl)).length ≤ 28400 := textN_bound h3
    generalize htt : textP p.pl = t
    have htd : wordPat ++ 32 :: (p.n.data.toList ++ 58 :: 32 :: (textA (p.tn.data.toList, p.ts) ++ 32 :: 61 :: 62 :: 32 :: (textN 0 (p.zs.map Nz.pl) ++ [46]))) = t := htt
    obtain ⟨sa, hsa⟩ : ∃ s, bs (textA (p.tn.data.toList, p.ts)) = s := ⟨_, rfl⟩
    obtain ⟨sf, hsf⟩ : ∃ s, bs (textN 0 (p.zs.map Nz.pl)) = s := ⟨_, rfl⟩
    have F2 := hide (fun W (hV : Below (w.alloc (bxPt p)).heap.size (w.alloc (bxPt p)) W) => fatomText_any p.tn p.ta p.tm p.tc p.ts sa W (he.on (bt hb0 hV)) (hi0.t.on hV) (hide h2) (hide hsa))
    have F3 := hide (fun W (hV : Below (w.alloc (bxPt p)).heap.size (w.alloc (bxPt p)) W) => formulaText_any p.na p.nl p.nc p.zs sf W (he.on (bt hb0 hV)) (hw.on (bt hb0 hV)) (hi0.z.on hV) (hide h3) (hide hsf))
    have hz1 : sa.size ≤ 700 := by rw [← hsa, bs_size]; exact ht1
    have hz2 : sf.size ≤ 28400 := by rw [← hsf, bs_size]; exact ht2
    have HT : Hid (bs t = (⟨#[112, 97, 116, 116, 101, 114, 110, 32]⟩ : ByteArray) ++ p.n ++ ⟨#[58, 32]⟩ ++ sa ++ ⟨#[32, 61, 62, 32]⟩ ++ sf ++ ⟨#[46]⟩) := hide (by
      rw [← htd, ← hsa, ← hsf]
      apply bytes_ext
      simp [ByteArray.data_append, wordPat])
    have q1 : (⟨#[112, 97, 116, 116, 101, 114, 110, 32]⟩ : ByteArray).size = 8 := rfl
    have q2 : (⟨#[58, 32]⟩ : ByteArray).size = 2 := rfl
    have q3 : (⟨#[32, 61, 62, 32]⟩ : ByteArray).size = 4 := rfl
    have q4 : (⟨#[46]⟩ : ByteArray).size = 1 := rfl
    have s1 : ¬ 9223372036854775807 < (⟨#[112, 97, 116, 116, 101, 114, 110, 32]⟩ : ByteArray).size + p.n.size := by omega
    have s2 : ¬ 9223372036854775807 < ((⟨#[112, 97, 116, 116, 101, 114, 110, 32]⟩ : ByteArray) ++ p.n).size + (⟨#[58, 32]⟩ : ByteArray).size := by simp only [ByteArray.size_append]; omega
    have s3 : ¬ 9223372036854775807 < ((⟨#[112, 97, 116, 116, 101, 114, 110, 32]⟩ : ByteArray) ++ p.n ++ ⟨#[58, 32]⟩).size + sa.size := by simp only [ByteArray.size_append]; omega
    have s4 : ¬ 9223372036854775807 < ((⟨#[112, 97, 116, 116, 101, 114, 110, 32]⟩ : ByteArray) ++ p.n ++ ⟨#[58, 32]⟩ ++ sa).size + (⟨#[32, 61, 62, 32]⟩ : ByteArray).size := by simp only [ByteArray.size_append]; omega
    have s5 : ¬ 9223372036854775807 < ((⟨#[112, 97, 116, 116, 101, 114, 110, 32]⟩ : ByteArray) ++ p.n ++ ⟨#[58, 32]⟩ ++ sa ++ ⟨#[32, 61, 62, 32]⟩).size + sf.size := by simp only [ByteArray.size_append]; omega
    have s6 : ¬ 9223372036854775807 < ((⟨#[112, 97, 116, 116, 101, 114, 110, 32]⟩ : ByteArray) ++ p.n ++ ⟨#[58, 32]⟩ ++ sa ++ ⟨#[32, 61, 62, 32]⟩ ++ sf).size + (⟨#[46]⟩ : ByteArray).size := by simp only [ByteArray.size_append]; omega
    have htl : (bs t).size = t.length := bs_size t
    rw [unhide HT] at htl
    by_cases hfit : t.length ≤ 20000
    · have F4 := hide (fun W => bounded_right ((⟨#[112, 97, 116, 116, 101, 114, 110, 32]⟩ : ByteArray) ++ p.n ++ ⟨#[58, 32]⟩ ++ sa ++ ⟨#[32, 61, 62, 32]⟩ ++ sf ++ ⟨#[46]⟩) W (by omega))
      have HE : Hid (TextR true t (.returned (.tuple #[.string ((⟨#[112, 97, 116, 116, 101, 114, 110, 32]⟩ : ByteArray) ++ p.n ++ ⟨#[58, 32]⟩ ++ sa ++ ⟨#[32, 61, 62, 32]⟩ ++ sf ++ ⟨#[46]⟩), .int .i64 0]))) := hide (Or.inr ⟨rfl, Or.inl ⟨hfit, by rw [unhide HT]⟩⟩)
      obtain ⟨c0, c1, c2, c3⟩ := T0
      clear hi0 hi hL he hw hq h1 h2 h3 ht1 ht2 htt htd hsa hsf q1 q2 q3 q4 hz1 hz2 hln htl hfit HT
      go_enter Tryz.func26, Tryz.ntmps26
      go_upto_region 1 with fail
      generalize w.alloc (bxPt p) = W0 at hb0 c0 c1 c2 c3 F F2 F3 ⊢
      go_wp2_with fail
      refine (unhide F).mono ?_
      rintro e w1 ⟨rfl, hb1⟩
      have T1 := (BPt.mk (p := p) c0 c1 c2 c3).on hb1
      clear F c0 c1 c2 c3
      obtain ⟨c0, c1, c2, c3⟩ := T1
      go_upto_region 3 with fail
      have F2c := cls (wr := w1) (fun V hV => unhide F2 V (bt hb1 hV))
      have F3c := cls (wr := w1) (fun V hV => unhide F3 V (bt hb1 hV))
      have F4c := cls (wr := w1) (fun V _ => (unhide F4 V).mono (fun _ _ h => ⟨h.1, h.2 ▸ Below.refl _ _⟩))
      have k0 := cell_regrown c0
      have k1 := cell_regrown c1
      have k2 := cell_regrown c2
      have k3 := cell_regrown c3
      clear F2 F3 F4
      refine wp_region_quiet_below (by kernel_rfl) (by kernel_rfl) ?_
      repeat (go_big_quiet_step (first | with_reducible exact F2c _ _ | with_reducible exact F3c _ _ | with_reducible exact F4c _ _))
      refine wpQuiet_nil ?_
      intro _ hww2
      obtain ⟨⟨dq, osq⟩, hxw2⟩ := hww2
      subst hxw2
      have hb2 := below_regrown w1 dq osq
      clear F2c F3c F4c k0 k1 k2 k3 c0 c1 c2 c3
      generalize Sort.grow (redrawn w1 dq) osq = w2 at hb2 ⊢
      go_wp2_with fail
      refine bodyPost_ret (v := .tuple #[.string ((⟨#[112, 97, 116, 116, 101, 114, 110, 32]⟩ : ByteArray) ++ p.n ++ ⟨#[58, 32]⟩ ++ sa ++ ⟨#[32, 61, 62, 32]⟩ ++ sf ++ ⟨#[46]⟩), .int .i64 0]) (by simp [results, Tryz.results26, go_sem]) rfl ?_
      exact ⟨unhide HE, bt hb0 (bt hb1 hb2)⟩
    · have F4 := hide (fun W => bounded_long ((⟨#[112, 97, 116, 116, 101, 114, 110, 32]⟩ : ByteArray) ++ p.n ++ ⟨#[58, 32]⟩ ++ sa ++ ⟨#[32, 61, 62, 32]⟩ ++ sf ++ ⟨#[46]⟩) W (by omega))
      have HE : Hid (TextR true t (.returned (.tuple #[.string ⟨#[]⟩, .int .i64 2]))) := hide (Or.inr ⟨rfl, Or.inr ⟨hfit, rfl⟩⟩)
      obtain ⟨c0, c1, c2, c3⟩ := T0
      clear hi0 hi hL he hw hq h1 h2 h3 ht1 ht2 htt htd hsa hsf q1 q2 q3 q4 hz1 hz2 hln htl hfit HT
      go_enter Tryz.func26, Tryz.ntmps26
      go_upto_region 1 with fail
      generalize w.alloc (bxPt p) = W0 at hb0 c0 c1 c2 c3 F F2 F3 ⊢
      go_wp2_with fail
      refine (unhide F).mono ?_
      rintro e w1 ⟨rfl, hb1⟩
      have T1 := (BPt.mk (p := p) c0 c1 c2 c3).on hb1
      clear F c0 c1 c2 c3
      obtain ⟨c0, c1, c2, c3⟩ := T1
      go_upto_region 3 with fail
      have F2c := cls (wr := w1) (fun V hV => unhide F2 V (bt hb1 hV))
      have F3c := cls (wr := w1) (fun V hV => unhide F3 V (bt hb1 hV))
      have F4c := cls (wr := w1) (fun V _ => (unhide F4 V).mono (fun _ _ h => ⟨h.1, h.2 ▸ Below.refl _ _⟩))
      have k0 := cell_regrown c0
      have k1 := cell_regrown c1
      have k2 := cell_regrown c2
      have k3 := cell_regrown c3
      clear F2 F3 F4
      refine wp_region_quiet_below (by kernel_rfl) (by kernel_rfl) ?_
      repeat (go_big_quiet_step (first | with_reducible exact F2c _ _ | with_reducible exact F3c _ _ | with_reducible exact F4c _ _))
      refine wpQuiet_nil ?_
      intro _ hww2
      obtain ⟨⟨dq, osq⟩, hxw2⟩ := hww2
      subst hxw2
      have hb2 := below_regrown w1 dq osq
      clear F2c F3c F4c k0 k1 k2 k3 c0 c1 c2 c3
      generalize Sort.grow (redrawn w1 dq) osq = w2 at hb2 ⊢
      go_wp2_with fail
      refine bodyPost_ret (v := .tuple #[.string ⟨#[]⟩, .int .i64 2]) (by simp [results, Tryz.results26, go_sem]) rfl ?_
      exact ⟨unhide HE, bt hb0 (bt hb1 hb2)⟩
end Go.Proofs.YtcjnhhbcleljmaaGreatDoor.Sb

/- What expr.step does where it takes two and pushes what they come to; expr.step in one word. -/
import Derived.Test.YtakhcifhfbiopaaExpE
namespace Go.Proofs.Ytakhcifhfbiopaa.Sb
open Go.RowKit
open V
open N (doL)

theorem own_cut {w : World} {B : Nat} {e : TypeId} {s g n p cap : Nat} {xs : List Value} (h : w.ownsRow B e s (.slice (some ⟨g, 0, none⟩) n cap) n xs) (hp : p ≤ n) : w.ownsRow B e s (.slice (some ⟨g, 0, none⟩) p cap) p (xs.take (p * s)) := by
  have hps : p * s ≤ n * s := Nat.mul_le_mul_right s hp
  refine ⟨by rw [List.length_take, h.1]; omega, ?_⟩
  rcases h.2 with ⟨hv, h0⟩ | ⟨g', cap', cur, hv, hB, hg, hc1, hc2, hc3, ht⟩
  · simp at hv
  · simp only [Value.slice.injEq, Option.some.injEq, Addr.mk.injEq, and_true, true_and] at hv
    obtain ⟨rfl, rfl⟩ := hv
    refine Or.inr ⟨g, cap, cur, rfl, hB, hg, by omega, hc2, hc3, ?_⟩
    rw [← ht, List.take_take, Nat.min_eq_left hps]
theorem flatV_take (xs ys : List Vv) (p : Nat) (hp : p = xs.length) : (flatV (xs ++ ys)).take (p * 3) = flatV xs := by
  rw [flatV_app, List.take_left' (by rw [flatV_len, hp])]
theorem flatV_get (xs : List Vv) : ∀ (i : Nat) (x : Vv), xs[i]? = some x → (flatV xs)[i * 3]? = some (.int .i64 x.1) ∧ (flatV xs)[i * 3 + 1]? = some (.int .i64 x.2.1) ∧ (flatV xs)[i * 3 + 2]? = some (.string x.2.2) := by
  induction xs with
  | nil => intro i x h; simp at h
  | cons y r ih =>
    intro i x h
    match i with
    | 0 => simp at h; subst h; simp [flatV]
    | i + 1 =>
      have := ih i x (by simpa using h)
      rw [show (i + 1) * 3 = i * 3 + 1 + 1 + 1 by omega]
      simpa [flatV] using this
/-- A value of a row that the call owns. -/
theorem own_at {w : World} {B n cs : Nat} {s : Option Addr} {st : List Vv} (h : w.ownsRow B 23 3 (.slice s n cs) n (flatV st)) {i : Nat} {x : Vv} (hx : st[i]? = some x) : ∃ g, s = some ⟨g, 0, none⟩ ∧ B ≤ g ∧ g < w.heap.size ∧ n = st.length ∧ n ≤ cs ∧ w.cell? ⟨g, i * 3, none⟩ = some (.int .i64 x.1) ∧ w.cell? ⟨g, i * 3 + 1, none⟩ = some (.int .i64 x.2.1) ∧ w.cell? ⟨g, i * 3 + 2, none⟩ = some (.string x.2.2) := by
  have hn : n = st.length := by have := h.1; rw [flatV_len] at this; omega
  have hi : i < n := by rw [hn]; exact (List.getElem?_eq_some_iff.1 hx).1
  rcases h.2 with ⟨hv, h0⟩ | ⟨g, cap, cur, hv, hB, hg, hc, _, _, ht⟩
  · omega
  · simp only [Value.slice.injEq] at hv
    obtain ⟨rfl, _, rfl⟩ := hv
    obtain ⟨h0, h1, h2⟩ := flatV_get st i x hx
    rw [← ht] at h0 h1 h2
    rw [List.getElem?_take_of_lt (by omega), Array.getElem?_toList] at h0 h1 h2
    refine ⟨g, rfl, hB, (Array.getElem?_eq_some_iff.1 hg).1, hn, hc, ?_⟩
    rw [Lib.cell_of_heap hg, Lib.cell_of_heap hg, Lib.cell_of_heap hg]
    exact ⟨h0, h1, h2⟩

theorem reckon_k (k : Int) (x y u : Vv) (e : Int) (w : World) (H : Hid (reckR k x y = (u, e))) :
    Calls Try.prog 58 #[.int .i64 k, .agg #[.int .i64 x.1, .int .i64 x.2.1, .string x.2.2], .agg #[.int .i64 y.1, .int .i64 y.2.1, .string y.2.2]] w fun r w' => r = .returned (.tuple #[.agg #[.int .i64 u.1, .int .i64 u.2.1, .string u.2.2], .int .i64 e]) ∧ Below w.heap.size w w' ∧ (∀ b o v, w.cell? ⟨b, o, none⟩ = some v → w'.cell? ⟨b, o, none⟩ = some v) := by
  refine (reckon_any k x y u e w H).mono ?_
  rintro r w' ⟨rfl, h⟩
  exact ⟨rfl, h, fun b o v g => cell_on h g⟩

/-- append at a step of a region that draws its order. -/
theorem step_append_wide {P : Program} {w : World} {ops : Array Oper} {o : Oper} {a : Act} {K : Act → World → Prop} {Q : Exit → Act → World → Prop} {E : Prop} (hgd : o.guard = none) (s x : Operand) (t : TypeId)
    (ho : o.op = .call { callee := .builtin .append, args := #[s, x], argTypes := #[t, t] })
    (base : Nat) (e : TypeId) (i : TypeInfo) (z : Value) (size bytes : Nat) (ht : P.underlying t = some (.slice e)) (hi : P.info? e = some i) (hz : i.zero = some z)
    (hsize : i.size = size) (hby : i.bytes = bytes) (hzs : z.cells.size = size) (hsz : 0 < size)
    (v : Value) (n : Nat) (xs : List Value) (hs : a.eval s = v) (hown : w.ownsRow base e size v n xs)
    (ad : Addr) (m c : Nat) (news : List Value) (hx : a.eval x = .slice (some ad) m c) (hl : news.length = m * size) (hnews : ∀ j u, news[j]? = some u → w.cell? (ad.add j) = some u) (h1 : ∀ u ∈ news, u.oneCell' = true)
    (h63 : n + m ≤ maxLen) (hbytes : ((n + m) + (n + m) / 4 + 192) * bytes ≤ 281474976710656) (hbase : base ≤ w.heap.size)
    (h : ∀ v' w', w'.ownsRow base e size v' (n + m) (xs ++ news) → w.grownBy w' v.ownBlock → (v' = .slice none 0 0 ↔ v = .slice none 0 0 ∧ m = 0) → K (a.put o.dst v') w') :
    if Region.wanted o (yielded ops a.tmps) = true then Oper.wp P o a w K Q else E := by
  have hw : Region.wanted o (yielded ops a.tmps) = true := by simp [Region.wanted, hgd]
  rw [if_pos hw]
  exact wp_append_own_wide w s x t ho base e i z size bytes ht hi hz hsize hby hzs hsz v n xs hs hown ad m c news hx hl hnews h1 h63 hbytes hbase h

theorem grown_cell {w w' : World} {r b o : Nat} {v : Value} (hg : w.grownBy w' (some r)) (hne : b ≠ r) (h : w.cell? ⟨b, o, none⟩ = some v) : w'.cell? ⟨b, o, none⟩ = some v := by
  have := hg.block b (cell_lt h) (by simpa using hne)
  simpa [World.cell?, this] using h
theorem three_sets {W : World} {b : Nat} {x y z x' y' z' : Value} (h0 : W.cell? ⟨b, 0, none⟩ = some x') (h1 : W.cell? ⟨b, 1, none⟩ = some y') (h2 : W.cell? ⟨b, 2, none⟩ = some z') :
    (((W.setCell ⟨b, 0, none⟩ x).setCell ⟨b, 1, none⟩ y).setCell ⟨b, 2, none⟩ z).cell? ⟨b, 0, none⟩ = some x ∧ (((W.setCell ⟨b, 0, none⟩ x).setCell ⟨b, 1, none⟩ y).setCell ⟨b, 2, none⟩ z).cell? ⟨b, 1, none⟩ = some y ∧ (((W.setCell ⟨b, 0, none⟩ x).setCell ⟨b, 1, none⟩ y).setCell ⟨b, 2, none⟩ z).cell? ⟨b, 2, none⟩ = some z := by
  have g1 : (W.setCell ⟨b, 0, none⟩ x).cell? ⟨b, 1, none⟩ = some y' := by rw [World.cell?_setCell_other _ _ _ _ (by simp)]; exact h1
  have g2 : ((W.setCell ⟨b, 0, none⟩ x).setCell ⟨b, 1, none⟩ y).cell? ⟨b, 2, none⟩ = some z' := by rw [World.cell?_setCell_other _ _ _ _ (by simp), World.cell?_setCell_other _ _ _ _ (by simp)]; exact h2
  refine ⟨?_, ?_, ?_⟩
  · rw [World.cell?_setCell_other _ _ _ _ (by simp), World.cell?_setCell_other _ _ _ _ (by simp), World.cell?_setCell_same _ _ _ h0]
  · rw [World.cell?_setCell_other _ _ _ _ (by simp), World.cell?_setCell_same _ _ _ g1]
  · rw [World.cell?_setCell_same _ _ _ g2]

set_option maxHeartbeats 2000000 in
theorem step_take (B g m cs : Nat) (pre : List Vv) (x y u : Vv) (k e : Int) (t : ByteArray) (v : Vv) (a : Option Addr) (len cap : Nat) (w : World) (hB : B ≤ w.heap.size) (hm : m ≤ 100)
    (k1 : (k == 1) = false) (k2 : (k == 2) = false) (he : (e != 0) = true)
    (hs : w.ownsRow B 23 3 (.slice (some ⟨g, 0, none⟩) (m + 2) cs) (m + 2) (flatV (pre ++ [x, y]))) (hml : m = pre.length) (H : Hid (reckR k x y = (u, e))) :
    Calls Try.prog 40 #[.slice (some ⟨g, 0, none⟩) (m + 2) cs, .agg #[.int .i64 k, .string t, .int .i64 v.1, .int .i64 v.2.1, .string v.2.2], .slice a len cap] w fun r w' => r = .returned (.tuple #[.slice none 0 0, .int .i64 e]) ∧ Below B w w' := by
  obtain ⟨i0, hi, hz0, hz1, hz2⟩ := info_parts infoV
  obtain ⟨g', hg', hBg, hgl, -, hcs, c0, c1, c2⟩ := own_at (i := m) (x := x) hs (by rw [hml]; simp)
  obtain ⟨g'', hg'', -, -, -, -, d0, d1, d2⟩ := own_at (i := m + 1) (x := y) hs (by rw [hml]; simp)
  simp only [Option.some.injEq, Addr.mk.injEq, and_true] at hg' hg''
  subst hg' hg''
  have hb0 : Below w.heap.size w (w.alloc (bxO (k, t, v))) := (Below.refl _ _).alloc (Nat.le_refl _) _
  have hq := (quintO (heap_alloc_new w (bxO (k, t, v)))).1
  replace c0 := cell_on hb0 c0
  replace c1 := cell_on hb0 c1
  replace c2 := cell_on hb0 c2
  replace d0 := cell_on hb0 d0
  replace d1 := cell_on hb0 d1
  replace d2 := cell_on hb0 d2
  have hgl' : g < (w.alloc (bxO (k, t, v))).heap.size := by simp; omega
  have hwl : w.heap.size < (w.alloc (bxO (k, t, v))).heap.size := by simp
  have e1 : wrap64 (m : Int) = (m : Int) := by simp [wrap64]; omega
  have e2 : (0 : Int) ≤ (m : Int) := by omega
  have e3 : (m : Int) < (m : Int) + 2 := by omega
  have e4 : IntKind.i64.wrap ((m : Int) + 1) = (m : Int) + 1 := by simp [IntKind.wrap, IntKind.bits, IntKind.signed]; omega
  have e5 : (0 : Int) ≤ (m : Int) + 1 := by omega
  have e6 : (m : Int) + 1 < (m : Int) + 2 := by omega
  have e7 : ((m : Int) + 1).toNat = m + 1 := by omega
  replace hml := hide hml
  replace hs := hide hs
  clear hgl
  go_enter Try.func40, Try.ntmps40
  go_wp2_with fail
  generalize w.alloc (bxO (k, t, v)) = W at hb0 hq c0 c1 c2 d0 d1 d2 hgl' hwl
  have n1 : W.heap.size ≠ g := by omega
  have n2 : W.heap.size ≠ w.heap.size := by omega
  have n3 : g ≠ W.heap.size := by omega
  have n4 : w.heap.size ≠ W.heap.size := by omega
  go_region_held3 (fun w' => w'.cell? ⟨w.heap.size, 0, none⟩ = some (.int .i64 k) ∧ w'.cell? ⟨g, m * 3, none⟩ = some (.int .i64 x.1) ∧ w'.cell? ⟨g, m * 3 + 1, none⟩ = some (.int .i64 x.2.1) ∧ w'.cell? ⟨g, m * 3 + 2, none⟩ = some (.string x.2.2) ∧ w'.cell? ⟨g, (m + 1) * 3, none⟩ = some (.int .i64 y.1) ∧ w'.cell? ⟨g, (m + 1) * 3 + 1, none⟩ = some (.int .i64 y.2.1) ∧ w'.cell? ⟨g, (m + 1) * 3 + 2, none⟩ = some (.string y.2.2)) (go_keep) (first
    | (go_at_call 58; refine (reckon_k k x y u e _ H).mono ?_; rintro r w1 ⟨rfl, hb1, hk1⟩; obtain ⟨hcl, hfr⟩ := bcell hb1))
  · have hV0 : Below w.heap.size w (w1.alloc (bxV u)) := (bt hb0.drew hb1).alloc (bt hb0.drew hb1).size _
    have hV := hV0.mono hB
    obtain ⟨x0, x1, x2⟩ := trip_of (v := u) (heap_alloc_new w1 (bxV u))
    clear hb0 hb1 hk1 hcl hfr c0 c1 c2 d0 d1 d2 hq n1 n2 n3 n4 hgl' hwl e1 e2 e3 e4 e5 e6 e7
    go_wp2_with fail
    go_ret2
    exact ⟨rfl, hV⟩
  · have hk := hb1.block W.heap.size (by simp)
    have hk2 : w1.heap[W.heap.size]? = some (bxV zeroV) := hk.trans (heap_alloc_new W (bxV zeroV))
    obtain ⟨y0, y1, y2⟩ := trip_of (v := zeroV) hk2
    have hba : Below w.heap.size w w1 := hb0.trans ((((Below.refl _ _).alloc (Nat.le_refl _) _).drew.trans (hb1.mono (by simp))).mono hb0.size)
    have hV0 := ((hba.setCell (p := ⟨W.heap.size, 0, none⟩) hb0.size (.int .i64 u.1)).setCell (p := ⟨W.heap.size, 1, none⟩) hb0.size (.int .i64 u.2.1)).setCell (p := ⟨W.heap.size, 2, none⟩) hb0.size (.string u.2.2)
    have hV := hV0.mono hB
    obtain ⟨x0, x1, x2⟩ := three_sets (x := .int .i64 u.1) (y := .int .i64 u.2.1) (z := .string u.2.2) y0 y1 y2
    clear hk hk2 y0 y1 y2 hba
    clear hb0 hb1 hk1 hcl hfr c0 c1 c2 d0 d1 d2 hq n1 n2 n3 n4 hgl' hwl e1 e2 e3 e4 e5 e6 e7
    go_wp2_with fail
    go_ret2
    exact ⟨rfl, hV⟩

set_option maxHeartbeats 2000000 in
theorem step_op (B g m cs : Nat) (pre : List Vv) (x y u : Vv) (k : Int) (t : ByteArray) (v : Vv) (a : Option Addr) (len cap : Nat) (w : World) (hB : B ≤ w.heap.size) (hm : m ≤ 100)
    (k1 : (k == 1) = false) (k2 : (k == 2) = false) 
    (hs : w.ownsRow B 23 3 (.slice (some ⟨g, 0, none⟩) (m + 2) cs) (m + 2) (flatV (pre ++ [x, y]))) (hml : m = pre.length) (H : Hid (reckR k x y = (u, 0))) :
    Calls Try.prog 40 #[.slice (some ⟨g, 0, none⟩) (m + 2) cs, .agg #[.int .i64 k, .string t, .int .i64 v.1, .int .i64 v.2.1, .string v.2.2], .slice a len cap] w fun r w' => ∃ (s' : Option Addr) (c' : Nat), r = .returned (.tuple #[.slice s' (m + 1) c', .int .i64 0]) ∧ w'.ownsRow B 23 3 (.slice s' (m + 1) c') (m + 1) (flatV (pre ++ [u])) ∧ Below B w w' := by
  obtain ⟨i0, hi, hz0, hz1, hz2⟩ := info_parts infoV
  obtain ⟨g', hg', hBg, hgl, -, hcs, c0, c1, c2⟩ := own_at (i := m) (x := x) hs (by rw [hml]; simp)
  obtain ⟨g'', hg'', -, -, -, -, d0, d1, d2⟩ := own_at (i := m + 1) (x := y) hs (by rw [hml]; simp)
  simp only [Option.some.injEq, Addr.mk.injEq, and_true] at hg' hg''
  subst hg' hg''
  have hb0 : Below w.heap.size w (w.alloc (bxO (k, t, v))) := (Below.refl _ _).alloc (Nat.le_refl _) _
  have hq := (quintO (heap_alloc_new w (bxO (k, t, v)))).1
  replace c0 := cell_on hb0 c0
  replace c1 := cell_on hb0 c1
  replace c2 := cell_on hb0 c2
  replace d0 := cell_on hb0 d0
  replace d1 := cell_on hb0 d1
  replace d2 := cell_on hb0 d2
  have hgl' : g < (w.alloc (bxO (k, t, v))).heap.size := by simp; omega
  have hwl : w.heap.size < (w.alloc (bxO (k, t, v))).heap.size := by simp
  have e1 : wrap64 (m : Int) = (m : Int) := by simp [wrap64]; omega
  have e2 : (0 : Int) ≤ (m : Int) := by omega
  have e3 : (m : Int) < (m : Int) + 2 := by omega
  have e4 : IntKind.i64.wrap ((m : Int) + 1) = (m : Int) + 1 := by simp [IntKind.wrap, IntKind.bits, IntKind.signed]; omega
  have e5 : (0 : Int) ≤ (m : Int) + 1 := by omega
  have e6 : (m : Int) + 1 < (m : Int) + 2 := by omega
  have e7 : ((m : Int) + 1).toNat = m + 1 := by omega
  replace hml := hide hml
  replace hs := hide hs
  clear hgl
  go_enter Try.func40, Try.ntmps40
  go_wp2_with fail
  generalize w.alloc (bxO (k, t, v)) = W at hb0 hq c0 c1 c2 d0 d1 d2 hgl' hwl
  have n1 : W.heap.size ≠ g := by omega
  have n2 : W.heap.size ≠ w.heap.size := by omega
  have n3 : g ≠ W.heap.size := by omega
  have n4 : w.heap.size ≠ W.heap.size := by omega
  go_region_held3 (fun w' => w'.cell? ⟨w.heap.size, 0, none⟩ = some (.int .i64 k) ∧ w'.cell? ⟨g, m * 3, none⟩ = some (.int .i64 x.1) ∧ w'.cell? ⟨g, m * 3 + 1, none⟩ = some (.int .i64 x.2.1) ∧ w'.cell? ⟨g, m * 3 + 2, none⟩ = some (.string x.2.2) ∧ w'.cell? ⟨g, (m + 1) * 3, none⟩ = some (.int .i64 y.1) ∧ w'.cell? ⟨g, (m + 1) * 3 + 1, none⟩ = some (.int .i64 y.2.1) ∧ w'.cell? ⟨g, (m + 1) * 3 + 2, none⟩ = some (.string y.2.2)) (go_keep) (first
    | (go_at_call 58; refine (reckon_k k x y u 0 _ H).mono ?_; rintro r w1 ⟨rfl, hb1, hk1⟩; obtain ⟨hcl, hfr⟩ := bcell hb1))
  · have hV0 : Below w.heap.size w (w1.alloc (bxV u)) := (bt hb0.drew hb1).alloc (bt hb0.drew hb1).size _
    have hV := hV0.mono hB
    obtain ⟨x0, x1, x2⟩ := trip_of (v := u) (heap_alloc_new w1 (bxV u))
    have hs2 := (own_drew (own_on (unhide hs) hV0)).alloc (bxV u)
    have hpg : w1.heap.size ≠ g := by have := hb1.size; simp at this; omega
    replace hs2 := own_cut hs2 (show m ≤ m + 2 by omega)
    rw [flatV_take pre [x, y] m (unhide hml)] at hs2
    clear hb0 hb1 hk1 hcl hfr c0 c1 c2 d0 d1 d2 hq n1 n2 n3 n4 hgl' hwl hs hml e3 e4 e5 e6 e7
    generalize w1.alloc (bxV u) = V at hV hV0 x0 x1 x2 hs2
    generalize w1.heap.size = pb at x0 x1 x2 hpg
    have hbd : Below V.heap.size V (V.drew.alloc (bxV u)) := (Below.refl _ _).drew.alloc (Nat.le_refl _) _
    have hsz : B ≤ (V.drew.alloc (bxV u)).heap.size := Nat.le_trans hB (Nat.le_trans hV0.size hbd.size)
    have hcv := hide (cells_v (heap_alloc_new V.drew (bxV u)))
    have hb2 : Below B w (V.drew.alloc (bxV u)) := hV.drew.alloc (Nat.le_trans hB hV0.size) _
    have e8 : (m : Int) ≤ (cs : Int) := by omega
    have q0 := cell_on hbd x0
    have q1 := cell_on hbd x1
    have q2 := cell_on hbd x2
    have nv : V.heap.size ≠ pb := by have := cell_lt x0; omega
    go_wp2_with fail
    go_region_held3 (fun w' => w'.cell? ⟨pb, 0, none⟩ = some (.int .i64 u.1) ∧ w'.cell? ⟨pb, 1, none⟩ = some (.int .i64 u.2.1) ∧ w'.cell? ⟨pb, 2, none⟩ = some (.string u.2.2)) (go_keep) (first
      | (refine step_append_wide (by rfl) _ _ 69 (by rfl) B 23 i0 (.agg #[.int .i64 0, .int .i64 0, .string ⟨#[]⟩]) 3 32 Try.underlying69 hi hz0 hz1 hz2 (by rfl) (by decide) (.slice (some ⟨g, 0, none⟩) m cs) m (flatV pre) (by rfl) hs2 ⟨V.heap.size, 0, none⟩ 1 1 (flatV [u]) (by rfl) (by rfl) (unhide hcv) (flatV_oneCell [u]) (by unfold maxLen; omega) (by omega) hsz ?_; intro v' w3 hown3 hgrow hnil3; have z0 := grown_cell hgrow hpg q0; have z1 := grown_cell hgrow hpg q1; have z2 := grown_cell hgrow hpg q2))
    obtain ⟨aq3, cq3, rfl⟩ := own_slice hown3
    have hbw3 := hb2.grown hgrow hsz (fun m hm => (hs2.lt m hm).1)
    rw [← flatV_app] at hown3
    clear hgrow hnil3 hs2 hcv hb2 x0 x1 x2 q0 q1 q2 z0 z1 z2
    go_wp2_with fail
    go_ret2
    exact ⟨aq3, cq3, rfl, hown3, hbw3⟩
  · have hk := hb1.block W.heap.size (by simp)
    have hk2 : w1.heap[W.heap.size]? = some (bxV zeroV) := hk.trans (heap_alloc_new W (bxV zeroV))
    obtain ⟨y0, y1, y2⟩ := trip_of (v := zeroV) hk2
    have hba : Below w.heap.size w w1 := hb0.trans ((((Below.refl _ _).alloc (Nat.le_refl _) _).drew.trans (hb1.mono (by simp))).mono hb0.size)
    have hV0 := ((hba.setCell (p := ⟨W.heap.size, 0, none⟩) hb0.size (.int .i64 u.1)).setCell (p := ⟨W.heap.size, 1, none⟩) hb0.size (.int .i64 u.2.1)).setCell (p := ⟨W.heap.size, 2, none⟩) hb0.size (.string u.2.2)
    have hV := hV0.mono hB
    obtain ⟨x0, x1, x2⟩ := three_sets (x := .int .i64 u.1) (y := .int .i64 u.2.1) (z := .string u.2.2) y0 y1 y2
    clear hk hk2 y0 y1 y2 hba
    have hs2 := (own_drew (own_on (unhide hs) hV0)).alloc (bxV u)
    have hpg : W.heap.size ≠ g := n1
    replace hs2 := own_cut hs2 (show m ≤ m + 2 by omega)
    rw [flatV_take pre [x, y] m (unhide hml)] at hs2
    clear hb0 hb1 hk1 hcl hfr c0 c1 c2 d0 d1 d2 hq n1 n2 n3 n4 hgl' hwl hs hml e3 e4 e5 e6 e7
    generalize ((w1.setCell ⟨W.heap.size, 0, none⟩ (.int .i64 u.1)).setCell ⟨W.heap.size, 1, none⟩ (.int .i64 u.2.1)).setCell ⟨W.heap.size, 2, none⟩ (.string u.2.2) = V at hV hV0 x0 x1 x2 hs2
    generalize W.heap.size = pb at x0 x1 x2 hpg
    have hbd : Below V.heap.size V (V.drew.alloc (bxV u)) := (Below.refl _ _).drew.alloc (Nat.le_refl _) _
    have hsz : B ≤ (V.drew.alloc (bxV u)).heap.size := Nat.le_trans hB (Nat.le_trans hV0.size hbd.size)
    have hcv := hide (cells_v (heap_alloc_new V.drew (bxV u)))
    have hb2 : Below B w (V.drew.alloc (bxV u)) := hV.drew.alloc (Nat.le_trans hB hV0.size) _
    have e8 : (m : Int) ≤ (cs : Int) := by omega
    have q0 := cell_on hbd x0
    have q1 := cell_on hbd x1
    have q2 := cell_on hbd x2
    have nv : V.heap.size ≠ pb := by have := cell_lt x0; omega
    go_wp2_with fail
    go_region_held3 (fun w' => w'.cell? ⟨pb, 0, none⟩ = some (.int .i64 u.1) ∧ w'.cell? ⟨pb, 1, none⟩ = some (.int .i64 u.2.1) ∧ w'.cell? ⟨pb, 2, none⟩ = some (.string u.2.2)) (go_keep) (first
      | (refine step_append_wide (by rfl) _ _ 69 (by rfl) B 23 i0 (.agg #[.int .i64 0, .int .i64 0, .string ⟨#[]⟩]) 3 32 Try.underlying69 hi hz0 hz1 hz2 (by rfl) (by decide) (.slice (some ⟨g, 0, none⟩) m cs) m (flatV pre) (by rfl) hs2 ⟨V.heap.size, 0, none⟩ 1 1 (flatV [u]) (by rfl) (by rfl) (unhide hcv) (flatV_oneCell [u]) (by unfold maxLen; omega) (by omega) hsz ?_; intro v' w3 hown3 hgrow hnil3; have z0 := grown_cell hgrow hpg q0; have z1 := grown_cell hgrow hpg q1; have z2 := grown_cell hgrow hpg q2))
    obtain ⟨aq3, cq3, rfl⟩ := own_slice hown3
    have hbw3 := hb2.grown hgrow hsz (fun m hm => (hs2.lt m hm).1)
    rw [← flatV_app] at hown3
    clear hgrow hnil3 hs2 hcv hb2 x0 x1 x2 q0 q1 q2 z0 z1 z2
    go_wp2_with fail
    go_ret2
    exact ⟨aq3, cq3, rfl, hown3, hbw3⟩

end Go.Proofs.Ytakhcifhfbiopaa.Sb

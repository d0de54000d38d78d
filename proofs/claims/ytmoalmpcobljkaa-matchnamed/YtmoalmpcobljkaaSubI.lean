/- What slices.Compact does with a list that the call owns: of neighbours that are the same one stays. -/
import Derived.Test.YtmoalmpcobljkaaSubG
namespace Go.Proofs.Ytmoalmpcobljkaa.Sb
open Go.RowKit
open V

/-- Just the members of the first i; rising, if these are in order. -/
def Sq (xs : List Bb) (i : Nat) (out : List Bb) : Prop := (∀ x, x ∈ out ↔ x ∈ xs.take i) ∧ (xs.Pairwise (fun x y => cmpB x y ≤ 0) → Rise cmpB out)

theorem take_b (xs : List Bb) (i : Nat) (hi : i < xs.length) : xs.take (i + 1) = xs.take i ++ [xs[i]] := List.take_succ_eq_append_getElem hi
theorem mem_take_b {xs : List Bb} {i t : Nat} (ht : t < xs.length) (hti : t < i) : xs[t] ∈ xs.take i := by
  rw [List.mem_iff_getElem]; exact ⟨t, by simp; omega, by simp⟩
theorem of_take_b {xs : List Bb} {i : Nat} {x : Bb} (h : x ∈ xs.take i) : ∃ t, ∃ ht : t < xs.length, t < i ∧ xs[t] = x := by
  obtain ⟨t, ht, rfl⟩ := List.getElem_of_mem h
  have : t < i ∧ t < xs.length := by simp at ht; omega
  exact ⟨t, this.2, this.1, by simp⟩
theorem sq_same {xs out : List Bb} {i : Nat} (hi : i + 1 < xs.length) (h : xs[i + 1] = xs[i]) (hs : Sq xs (i + 1) out) : Sq xs (i + 1 + 1) out := by
  refine ⟨fun x => ?_, hs.2⟩
  rw [hs.1 x, take_b xs (i + 1) hi, List.mem_append, List.mem_singleton]
  constructor
  · exact Or.inl
  · rintro (hx | hx)
    · exact hx
    · rw [hx, h]; exact mem_take_b (by omega) (by omega)
theorem sq_new {xs out : List Bb} {i : Nat} (hi : i + 1 < xs.length) (h : xs[i + 1] ≠ xs[i]) (hs : Sq xs (i + 1) out) : Sq xs (i + 1 + 1) (out ++ [xs[i + 1]]) := by
  refine ⟨fun x => ?_, fun hp0 => ?_⟩
  · rw [List.mem_append, List.mem_singleton, hs.1 x, take_b xs (i + 1) hi, List.mem_append, List.mem_singleton]
  · have hp := hp0
    rw [List.pairwise_iff_getElem] at hp
    refine List.pairwise_append.2 ⟨hs.2 hp0, by simp, fun y hy z hz => ?_⟩
    rw [List.mem_singleton.1 hz]
    obtain ⟨t, ht, hti, rfl⟩ := of_take_b ((hs.1 y).1 hy)
    have h1 := hp t (i + 1) ht hi hti
    have h2 := ord_bind.tri xs[t] xs[i + 1]
    by_cases hz0 : cmpB xs[t] xs[i + 1] = 0
    · exfalso
      have he := (ord_bind.zero _ _).1 hz0
      by_cases hti' : t = i
      · subst hti'; exact h he.symm
      · have h3 := hp t i ht (by omega) (by omega)
        have h4 := hp i (i + 1) (by omega) hi (by omega)
        rw [he] at h3
        have h5 := ord_bind.anti xs[i] xs[i + 1]
        have h6 : cmpB xs[i] xs[i + 1] = 0 := by omega
        exact h ((ord_bind.zero _ _).1 h6).symm
    · omega
theorem sq_short {xs : List Bb} {i : Nat} (h : (xs.take i).length < 2) : Sq xs i (xs.take i) := by
  refine ⟨fun x => Iff.rfl, fun _ => ?_⟩
  generalize xs.take i = l at h
  match l, h with
  | [], _ => exact List.Pairwise.nil
  | [x], _ => simp [Rise]

theorem flatB_set (ys : List Bb) (k : Nat) (x : Bb) (hk : k < ys.length) : ((((flatB ys).set (k * 4) (.string x.1)).set (k * 4 + 1) (.int .i64 x.2.1)).set (k * 4 + 2) (.int .i64 x.2.2.1)).set (k * 4 + 3) (.string x.2.2.2) = flatB (ys.set k x) := by
  induction ys generalizing k with
  | nil => simp at hk
  | cons y r ih =>
    cases k with
    | zero => simp [flatB]
    | succ k =>
      have := ih k (by simpa using hk)
      rw [show (k + 1) * 4 = k * 4 + 1 + 1 + 1 + 1 by omega]
      simp only [flatB, List.set_cons_succ]
      rw [this]
theorem out_set (out xs : List Bb) (k : Nat) (x : Bb) (hk : k = out.length) (hf : k < xs.length) : (out ++ xs.drop k).set k x = (out ++ [x]) ++ xs.drop (k + 1) := by
  subst hk
  rw [List.set_append_right _ _ (Nat.le_refl _), Nat.sub_self, List.drop_eq_getElem_cons hf, List.set_cons_zero]
  simp

theorem clear_run (w : World) (ty : TypeId) (b o n c : Nat) (hn : 0 < n) (hc : ∀ j, j < n * 4 → (w.cell? ⟨b, o + j, none⟩).isSome = true) (hf : ∀ j, j < n * 4 → w.frozen? ⟨b, o + j, none⟩ = false) :
    (Builtin.clear_ #[30] ty #[.slice (some ⟨b, o, none⟩) n c]).run Try.prog w = .ok (.tuple #[]) (w.setCells b o (Builtin.zeroCells #[.string ⟨#[]⟩, .int .i64 0, .int .i64 0, .string ⟨#[]⟩] n).toList) := by
  have hst := run_storeCells_cells (P := Try.prog) b o (Builtin.zeroCells #[.string ⟨#[]⟩, .int .i64 0, .int .i64 0, .string ⟨#[]⟩] n).toList 0 w (by simpa [size_zeroCells] using hc) (by simpa [size_zeroCells] using hf) (by
    intro v hv
    simp [Builtin.zeroCells] at hv
    obtain ⟨i, hi, rfl⟩ := hv
    have hm : i % 4 = 0 ∨ i % 4 = 1 ∨ i % 4 = 2 ∨ i % 4 = 3 := by omega
    rcases hm with h | h | h | h <;> simp [h] <;> rfl)
  simp only [Nat.add_zero] at hst
  obtain ⟨m, rfl⟩ : ∃ m, n = m + 1 := ⟨n - 1, by omega⟩
  simp [Builtin.clear_, run_underlying Try.underlying30, Value.cells, hst]

theorem below_setCells {B : Nat} {a : World} {b : Nat} (hb : B ≤ b) : ∀ (vs : List Value) (o : Nat) (w : World), Below B a w → Below B a (w.setCells b o vs)
  | [], _, _, h => h
  | v :: r, o, w, h => by
    rw [World.setCells]
    exact below_setCells hb r (o + 1) _ (h.setCell (p := ⟨b, o, none⟩) hb v)
theorem own_setCells {B : Nat} {e : TypeId} {s g n cap : Nat} : ∀ (vs : List Value) (o : Nat) (w : World) (xs : List Value), w.ownsRow B e s (.slice (some ⟨g, 0, none⟩) n cap) n xs → ∃ ys, (w.setCells g o vs).ownsRow B e s (.slice (some ⟨g, 0, none⟩) n cap) n ys ∧ ys.take o = xs.take o
  | [], _, _, xs, h => ⟨xs, h, rfl⟩
  | v :: r, o, w, xs, h => by
    rw [World.setCells]
    obtain ⟨ys, h1, h2⟩ := own_setCells r (o + 1) _ _ (h.stored o v).1
    refine ⟨ys, h1, ?_⟩
    have := congrArg (List.take o) h2
    rw [List.take_take, List.take_take, Nat.min_eq_left (Nat.le_succ o)] at this
    rw [this, List.take_set_of_le (Nat.le_refl o)]
theorem own_cut {w : World} {B : Nat} {e : TypeId} {s g n p cap : Nat} {xs : List Value} (h : w.ownsRow B e s (.slice (some ⟨g, 0, none⟩) n cap) n xs) (hp : p ≤ n) : w.ownsRow B e s (.slice (some ⟨g, 0, none⟩) p cap) p (xs.take (p * s)) := by
  have hps : p * s ≤ n * s := Nat.mul_le_mul_right s hp
  refine ⟨by rw [List.length_take, h.1]; omega, ?_⟩
  rcases h.2 with ⟨hv, h0⟩ | ⟨g', cap', cur, hv, hB, hg, hc1, hc2, hc3, ht⟩
  · simp at hv
  · simp only [Value.slice.injEq, Option.some.injEq, Addr.mk.injEq, and_true, true_and] at hv
    obtain ⟨rfl, rfl⟩ := hv
    refine Or.inr ⟨g, cap, cur, rfl, hB, hg, by omega, hc2, hc3, ?_⟩
    rw [← ht, List.take_take, Nat.min_eq_left hps]
theorem flatB_take (xs ys : List Bb) (p : Nat) (hp : p = xs.length) : (flatB (xs ++ ys)).take (p * 4) = flatB xs := by
  rw [flatB_app, List.take_left' (by rw [flatB_len, hp])]

theorem out_at {out xs : List Bb} {p i : Nat} (hp : out.length = p) (hi : p ≤ i) (hif : i < xs.length) : (out ++ xs.drop p)[i]? = some xs[i] := by
  rw [List.getElem?_append_right (by omega), List.getElem?_drop, show p + (i - out.length) = i by omega]
  simp [hif]
theorem RowB.at {w : World} {g i : Nat} {ys : List Bb} {x : Bb} (h : RowB w (some ⟨g, 0, none⟩) ys) (hi : ys[i]? = some x) : w.cell? ⟨g, i * 4, none⟩ = some (.string x.1) ∧ w.cell? ⟨g, i * 4 + 1, none⟩ = some (.int .i64 x.2.1) ∧ w.cell? ⟨g, i * 4 + 2, none⟩ = some (.int .i64 x.2.2.1) ∧ w.cell? ⟨g, i * 4 + 3, none⟩ = some (.string x.2.2.2) := by
  obtain ⟨hi', rfl⟩ := List.getElem?_eq_some_iff.1 hi
  obtain ⟨b, o, ha, hbl, c0, c1, c2, c3⟩ := h.up hi'
  simp only [Option.some.injEq, Addr.mk.injEq, and_true] at ha
  obtain ⟨rfl, rfl⟩ := ha
  simp only [Nat.zero_add] at c0 c1 c2 c3
  exact ⟨c0, c1, c2, c3⟩

set_option maxHeartbeats 8000000 in
set_option maxRecDepth 20000 in
theorem compact_some (g n cap : Nat) (xs : List Bb) (w0 w : World) (hb : Below w0.heap.size w0 w) (hown : w.ownsRow w0.heap.size 61 4 (.slice (some ⟨g, 0, none⟩) n cap) n (flatB xs)) (hg : w0.heap.size ≤ g) (hcap : n ≤ cap) (_hcap' : cap ≤ 9223372036854775807) (hn1 : n ≤ xs.length) (hn2 : xs.length ≤ n) (h1k : n ≤ 1000) (h2 : 2 ≤ n) :
    Calls Try.prog 37 #[.slice (some ⟨g, 0, none⟩) n cap] w fun e w' => ∃ (m : Nat) (gs : List Bb), e = .returned (.slice (some ⟨g, 0, none⟩) m cap) ∧ w'.ownsRow w0.heap.size 61 4 (.slice (some ⟨g, 0, none⟩) m cap) m (flatB gs) ∧ Hid (Sq xs xs.length gs) ∧ Below w0.heap.size w0 w' := by
  have hd2 : decide ((n : Int) < 2) = false := by simp; omega
  go_enter Try.func37, Try.ntmps37
  go_wp2_with fail
  go_loopw [3] (fun i wr => ∃ k : Nat, 1 ≤ k ∧ k ≤ n ∧ i = .int .i64 k ∧ Hid (Sq xs k (xs.take k)) ∧ wr.ownsRow w0.heap.size 61 4 (.slice (some ⟨g, 0, none⟩) n cap) n (flatB xs) ∧ Below w0.heap.size w0 wr) (fun i _ => n - (intOf i).toNat)
  case atStart => exact ⟨1, Nat.le_refl _, by omega, rfl, hide (sq_short (by simp; omega)), hown, hb⟩
  case round =>
    clear hown hb
    obtain ⟨k, hk1, hk, rfl, HK, hown, hb⟩ := hrel
    by_cases hlt : k < n
    · obtain ⟨j, hjk⟩ : ∃ j, k = j + 1 := ⟨k - 1, by omega⟩
      have hrow := rowB_own hown (by omega)
      obtain ⟨c0, c1, c2, c3⟩ := hrow.at (i := k) (x := xs[k]) (by simp)
      obtain ⟨p0, p1, p2, p3⟩ := hrow.at (i := j) (x := xs[j]) (by simp)
      have e0 : (k : Int) - 1 = (j : Int) := by omega
      have e4 : IntKind.i64.wrap (j : Int) = (j : Int) := by simp [IntKind.wrap, IntKind.bits, IntKind.signed]; omega
      have e2 : (j : Int) < (n : Int) := by omega
      have e3 : (0 : Int) ≤ (j : Int) := by omega
      have hE := eqB_in xs[k] xs[j]
      clear hrow
      by_cases hz : xs[k] = xs[j]
      · have HS : Hid (Sq xs (k + 1) (xs.take k)) := by
          refine hide ?_
          subst hjk
          exact sq_same (by omega) hz (unhide HK)
        rw [decide_eq_true hz] at hE
        clear hz
        generalize xs[k] = x at c0 c1 c2 c3 hE
        generalize xs[j] = y at p0 p1 p2 p3 hE
        clear hjk
        go_wp2_with fail
        go_quiet (fail)
        have hown' : (wr.drewN nq).ownsRow w0.heap.size 61 4 (.slice (some ⟨g, 0, none⟩) n cap) n (flatB xs) := hown
        have hbw' := below_drewN hb nq
        clear c0 c1 c2 c3 p0 p1 p2 p3 hE e0 e4 e2 e3 hown hb
        go_wp2_with fail
        generalize wr.drewN nq = W at hown' hbw'
        generalize hr : n - k = r
        generalize cap - k = rc
        have hr1 : k + r ≤ n := by omega
        have hr2 : n ≤ k + r := by omega
        have hr3 : 1 ≤ r := by omega
        clear hr
        go_loopw [3, 5] (fun i i2 wq => ∃ (p k2 : Nat) (out : List Bb), 1 ≤ k2 ∧ k2 ≤ r ∧ p + 1 ≤ k + k2 ∧ i = .int .i64 p ∧ i2 = .int .i64 k2 ∧ p ≤ out.length ∧ out.length ≤ p ∧ Hid (Sq xs (k + k2) out) ∧ wq.ownsRow w0.heap.size 61 4 (.slice (some ⟨g, 0, none⟩) n cap) n (flatB (out ++ xs.drop p)) ∧ Below w0.heap.size w0 wq) (fun _ i2 _ => r - (intOf i2).toNat)
        case atStart => exact ⟨k, 1, xs.take k, Nat.le_refl _, hr3, Nat.le_refl _, rfl, rfl, by simp; omega, by simp; omega, HS, by rw [List.take_append_drop]; exact hown', hbw'⟩
        case round =>
          clear hown' hbw' HS HK
          obtain ⟨p, k2, out, h21, h2r, hp, rfl, rfl, ho1, ho2, HS, hown, hb⟩ := hrel
          have hrow := rowB_own hown (by simp; omega)
          by_cases hq : k2 < r
          · obtain ⟨q0, q1, q2, q3⟩ := hrow.at (out_at (i := p) (by omega) (by omega) (show p < xs.length by omega))
            generalize xs[p] = z at q0 q1 q2 q3
            obtain ⟨j2, hj2⟩ : ∃ j2, k2 = j2 + 1 := ⟨k2 - 1, by omega⟩
            obtain ⟨c0, c1, c2, c3⟩ := hrow.at (out_at (i := k + k2) (by omega) (by omega) (show k + k2 < xs.length by omega))
            obtain ⟨p0, p1, p2, p3⟩ := hrow.at (out_at (i := k + j2) (by omega) (by omega) (show k + j2 < xs.length by omega))
            rw [Nat.add_mul] at c0 c1 c2 c3 p0 p1 p2 p3
            have e0 : (k2 : Int) - 1 = (j2 : Int) := by omega
            have e4 : IntKind.i64.wrap (j2 : Int) = (j2 : Int) := by simp [IntKind.wrap, IntKind.bits, IntKind.signed]; omega
            have e2 : (j2 : Int) < (r : Int) := by omega
            have e3 : (0 : Int) ≤ (j2 : Int) := by omega
            have hE := eqB_in xs[k + k2] xs[k + j2]
            clear hrow
            by_cases hz : xs[k + k2] = xs[k + j2]
            · have HS' : Hid (Sq xs (k + (k2 + 1)) out) := by
                refine hide ?_
                subst hj2
                exact sq_same (i := k + j2) (by omega) hz (unhide HS)
              rw [decide_eq_true hz] at hE
              clear hz
              generalize xs[k + k2] = x at c0 c1 c2 c3 hE
              generalize xs[k + j2] = y at p0 p1 p2 p3 hE
              clear hj2 q0 q1 q2 q3
              go_wp2_with fail
              go_quiet (fail)
              have hown' : (wr.drewN nq).ownsRow w0.heap.size 61 4 (.slice (some ⟨g, 0, none⟩) n cap) n (flatB (out ++ xs.drop p)) := hown
              have hbw' := below_drewN hb nq
              clear c0 c1 c2 c3 p0 p1 p2 p3 hE e0 e4 e2 e3 hown hb
              go_wp2_with fail
              go_roundw
              case rel => exact ⟨p, k2 + 1, out, by omega, by omega, by omega, rfl, by go_num, ho1, ho2, HS', hown', hbw'⟩
              case measure => simp [intOf]; omega
            · have HS' : Hid (Sq xs (k + (k2 + 1)) (out ++ [xs[k + k2]])) := by
                refine hide ?_
                subst hj2
                exact sq_new (i := k + j2) (by omega) hz (unhide HS)
              have HF : Hid (((((flatB (out ++ xs.drop p)).set (p * 4) (.string xs[k + k2].1)).set (p * 4 + 1) (.int .i64 xs[k + k2].2.1)).set (p * 4 + 2) (.int .i64 xs[k + k2].2.2.1)).set (p * 4 + 3) (.string xs[k + k2].2.2.2) = flatB ((out ++ [xs[k + k2]]) ++ xs.drop (p + 1))) := by
                refine hide ?_
                rw [flatB_set _ _ _ (by simp; omega), out_set _ _ _ _ (by omega) (by omega)]
              rw [decide_eq_false hz] at hE
              clear hz HS
              generalize xs[k + k2] = x at c0 c1 c2 c3 hE HS' HF
              generalize xs[k + j2] = y at p0 p1 p2 p3 hE
              clear hj2
              go_wp2_with fail
              go_quiet (fail)
              have hown' : (wr.drewN nq).ownsRow w0.heap.size 61 4 (.slice (some ⟨g, 0, none⟩) n cap) n (flatB (out ++ xs.drop p)) := hown
              have hbw' := below_drewN hb nq
              have d0 : (wr.drewN nq).cell? ⟨g, k * 4 + k2 * 4, none⟩ = some (.string x.1) := c0
              have d1 : (wr.drewN nq).cell? ⟨g, k * 4 + k2 * 4 + 1, none⟩ = some (.int .i64 x.2.1) := c1
              have d2 : (wr.drewN nq).cell? ⟨g, k * 4 + k2 * 4 + 2, none⟩ = some (.int .i64 x.2.2.1) := c2
              have d3 : (wr.drewN nq).cell? ⟨g, k * 4 + k2 * 4 + 3, none⟩ = some (.string x.2.2.2) := c3
              have s0 : (wr.drewN nq).cell? ⟨g, p * 4, none⟩ = some (.string z.1) := q0
              have s1 : (wr.drewN nq).cell? ⟨g, p * 4 + 1, none⟩ = some (.int .i64 z.2.1) := q1
              have s2 : (wr.drewN nq).cell? ⟨g, p * 4 + 2, none⟩ = some (.int .i64 z.2.2.1) := q2
              have s3 : (wr.drewN nq).cell? ⟨g, p * 4 + 3, none⟩ = some (.string z.2.2.2) := q3
              clear c0 c1 c2 c3 p0 p1 p2 p3 q0 q1 q2 q3 hE e0 e4 e2 e3 hown hb
              generalize wr.drewN nq = W2 at hown' hbw' d0 d1 d2 d3 s0 s1 s2 s3
              have f0 := hown'.frozenAt (p * 4)
              have f1 := hown'.frozenAt (p * 4 + 1)
              have f2 := hown'.frozenAt (p * 4 + 2)
              have f3 := hown'.frozenAt (p * 4 + 3)
              have o1 := hown'.stored (p * 4) (.string x.1)
              have o2 := o1.1.stored (p * 4 + 1) (.int .i64 x.2.1)
              have o3 := o2.1.stored (p * 4 + 2) (.int .i64 x.2.2.1)
              have o4 := o3.1.stored (p * 4 + 3) (.string x.2.2.2)
              have hown2 := o4.1
              rw [unhide HF] at hown2
              have hbw2 := (((hbw'.setCell (p := ⟨g, p * 4, none⟩) hg (.string x.1)).setCell (p := ⟨g, p * 4 + 1, none⟩) hg (.int .i64 x.2.1)).setCell (p := ⟨g, p * 4 + 2, none⟩) hg (.int .i64 x.2.2.1)).setCell (p := ⟨g, p * 4 + 3, none⟩) hg (.string x.2.2.2)
              clear o1 o2 o3 o4 hown' hbw' HF
              go_wp2_with fail
              go_roundw
              case rel => exact ⟨p + 1, k2 + 1, out ++ [x], by omega, by omega, by omega, by go_num, by go_num, by simp; omega, by simp; omega, HS', hown2, hbw2⟩
              case measure => simp [intOf]; omega
          · have HS' : Hid (Sq xs xs.length out) := by
              refine hide ?_
              have := unhide HS
              rw [show k + k2 = xs.length by omega] at this
              exact this
            have hpn : p < n := by omega
            have hcl : ∀ ty, (Builtin.clear_ #[30] ty #[.slice (some ⟨g, p * 4, none⟩) (n - p) (cap - p)]).run Try.prog wr = .ok (.tuple #[]) (wr.setCells g (p * 4) (Builtin.zeroCells #[.string ⟨#[]⟩, .int .i64 0, .int .i64 0, .string ⟨#[]⟩] (n - p)).toList) :=
              fun ty => clear_run wr ty g (p * 4) (n - p) (cap - p) (by omega) (fun j hj => by
                have := hown.cellAt (p * 4 + j) (by omega)
                rw [this]
                have h2 : p * 4 + j < (flatB (out ++ xs.drop p)).length := by rw [hown.1]; omega
                simp [h2]) (fun j _ => hown.frozenAt _)
            have HR : Hid ((wr.setCells g (p * 4) (Builtin.zeroCells #[.string ⟨#[]⟩, .int .i64 0, .int .i64 0, .string ⟨#[]⟩] (n - p)).toList).ownsRow w0.heap.size 61 4 (.slice (some ⟨g, 0, none⟩) p cap) p (flatB out)) := by
              refine hide ?_
              obtain ⟨ys, h1, h2⟩ := own_setCells (Builtin.zeroCells #[.string ⟨#[]⟩, .int .i64 0, .int .i64 0, .string ⟨#[]⟩] (n - p)).toList (p * 4) wr _ hown
              have h3 := own_cut h1 (Nat.le_of_lt hpn)
              rw [h2, flatB_take out _ p (by omega)] at h3
              exact h3
            have hbf := below_setCells hg (Builtin.zeroCells #[.string ⟨#[]⟩, .int .i64 0, .int .i64 0, .string ⟨#[]⟩] (n - p)).toList (p * 4) wr hb
            clear hrow HS
            go_wp2_with fail
            go_ret
            exact ⟨p, out, rfl, unhide HR, HS', hbf⟩
      · have HS : Hid (Sq xs (k + 1) (xs.take (k + 1))) := by
          refine hide ?_
          rw [show xs.take (k + 1) = xs.take k ++ [xs[k]] from take_b xs k (by omega)]
          subst hjk
          exact sq_new (by omega) hz (unhide HK)
        rw [decide_eq_false hz] at hE
        clear hz
        generalize xs[k] = x at c0 c1 c2 c3 hE
        generalize xs[j] = y at p0 p1 p2 p3 hE
        clear hjk
        go_wp2_with fail
        go_quiet (fail)
        have hown' : (wr.drewN nq).ownsRow w0.heap.size 61 4 (.slice (some ⟨g, 0, none⟩) n cap) n (flatB xs) := hown
        have hbw' := below_drewN hb nq
        clear c0 c1 c2 c3 p0 p1 p2 p3 hE e0 e4 e2 e3 hown hb
        go_wp2_with fail
        go_roundw
        case rel => exact ⟨k + 1, by omega, by omega, by go_num, HS, hown', hbw'⟩
        case measure => simp [intOf]; omega
    · have HS : Hid (Sq xs xs.length xs) := by
        refine hide ?_
        have := unhide HK
        rw [show k = xs.length by omega, List.take_length] at this
        exact this
      go_wp2_with fail
      go_ret
      exact ⟨n, xs, rfl, hown, HS, hb⟩

theorem compact_any (a : Option Addr) (n cap : Nat) (xs : List Bb) (w0 w : World) (hb : Below w0.heap.size w0 w) (hown : w.ownsRow w0.heap.size 61 4 (.slice a n cap) n (flatB xs)) (h1k : n ≤ 1000) :
    Calls Try.prog 37 #[.slice a n cap] w fun e w' => ∃ (m : Nat) (gs : List Bb), e = .returned (.slice a m cap) ∧ w'.ownsRow w0.heap.size 61 4 (.slice a m cap) m (flatB gs) ∧ Hid (Sq xs xs.length gs) ∧ Below w0.heap.size w0 w' := by
  have hn : n = xs.length := by have := hown.1; rw [flatB_len] at this; omega
  by_cases h2 : n < 2
  · have HS : Hid (Sq xs xs.length xs) := by
      refine hide ?_
      have := sq_short (xs := xs) (i := xs.length) (by simp; omega)
      rwa [List.take_length] at this
    have hd2 : decide ((n : Int) < 2) = true := by simp; omega
    clear hn
    go_enter Try.func37, Try.ntmps37
    go_wp2_with fail
    go_ret
    exact ⟨n, xs, rfl, hown, HS, hb⟩
  · rcases hown.2 with ⟨hv, h0⟩ | ⟨g, cap', cur, hv, hB, hg, hc1, hc2, hc3, ht⟩
    · omega
    · simp only [Value.slice.injEq] at hv
      obtain ⟨rfl, -, rfl⟩ := hv
      exact compact_some g n cap xs w0 w hb hown hB hc1 (by unfold maxLen at hc2; omega) (by omega) (by omega) h1k (by omega)
end Go.Proofs.Ytmoalmpcobljkaa.Sb

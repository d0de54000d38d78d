/- What slices.CompactFunc by sets.alike does with a sorted list of facts that the call owns. -/
import Derived.Test.YtmnonjacomabbaaSetD
namespace Go.Proofs.Ytmnonjacomabbaa
open Go.RowKit
open V

/-- Rising, with just the members of l. -/
def Sq (l out : List Fc) : Prop := Rise cmpF out ∧ ∀ x, x ∈ out ↔ x ∈ l

theorem mem_take_l {fs : List Fb} {i : Nat} {x : Fc} (h : x ∈ (fs.take i).map Fb.l) : ∃ t, ∃ ht : t < fs.length, t < i ∧ fs[t].l = x := by
  obtain ⟨f, hf, rfl⟩ := List.mem_map.1 h
  obtain ⟨t, ht, rfl⟩ := List.getElem_of_mem hf
  have : t < i ∧ t < fs.length := by simp at ht; omega
  exact ⟨t, this.2, this.1, by simp⟩
theorem take_l (fs : List Fb) (i : Nat) (hi : i < fs.length) : (fs.take (i + 1)).map Fb.l = (fs.take i).map Fb.l ++ [fs[i].l] := by
  rw [List.take_succ_eq_append_getElem hi, List.map_append]; rfl
theorem mem_take_of {fs : List Fb} {i t : Nat} (ht : t < fs.length) (hti : t < i) : fs[t].l ∈ (fs.take i).map Fb.l :=
  List.mem_map.2 ⟨fs[t], by rw [List.mem_iff_getElem]; exact ⟨t, by simp; omega, by simp⟩, rfl⟩
theorem sq_same {fs : List Fb} {out : List Fc} {i : Nat} (hi : i + 1 < fs.length) (h : fs[i + 1].l = fs[i].l) (hs : Sq ((fs.take (i + 1)).map Fb.l) out) : Sq ((fs.take (i + 1 + 1)).map Fb.l) out := by
  refine ⟨hs.1, fun x => ?_⟩
  rw [hs.2 x, take_l fs (i + 1) hi, List.mem_append, List.mem_singleton]
  constructor
  · exact Or.inl
  · rintro (hx | hx)
    · exact hx
    · rw [hx, h]; exact mem_take_of (by omega) (by omega)
theorem sq_new {fs : List Fb} {out : List Fc} {i : Nat} (hp : fs.Pairwise (fun x y => cmpF x.l y.l ≤ 0)) (hi : i + 1 < fs.length) (h : fs[i + 1].l ≠ fs[i].l) (hs : Sq ((fs.take (i + 1)).map Fb.l) out) : Sq ((fs.take (i + 1 + 1)).map Fb.l) (out ++ [fs[i + 1].l]) := by
  rw [List.pairwise_iff_getElem] at hp
  refine ⟨?_, fun x => ?_⟩
  · refine List.pairwise_append.2 ⟨hs.1, by simp, fun y hy z hz => ?_⟩
    rw [List.mem_singleton.1 hz]
    obtain ⟨t, ht, hti, rfl⟩ := mem_take_l ((hs.2 y).1 hy)
    have h1 := hp t (i + 1) ht hi hti
    have h2 := ord_fact.tri fs[t].l fs[i + 1].l
    by_cases hz0 : cmpF fs[t].l fs[i + 1].l = 0
    · exfalso
      have he := (ord_fact.zero _ _).1 hz0
      by_cases hti' : t = i
      · subst hti'; exact h he.symm
      · have h3 := hp t i ht (by omega) (by omega)
        have h4 := hp i (i + 1) (by omega) hi (by omega)
        rw [he] at h3
        have h5 := ord_fact.anti fs[i].l fs[i + 1].l
        have h6 : cmpF fs[i].l fs[i + 1].l = 0 := by omega
        exact h ((ord_fact.zero _ _).1 h6).symm
    · omega
  · rw [List.mem_append, List.mem_singleton, hs.2 x, take_l fs (i + 1) hi, List.mem_append, List.mem_singleton]

theorem alike_k (f g : Fb) (q : Bool) (w : World) (hf : f.In w) (hg : g.In w) (h20 : f.len ≤ 1000) (H : Hid (decide (f.l = g.l) = q)) :
    Calls Try.prog 36 #[.agg #[.string f.n, .slice f.a f.len f.cap], .agg #[.string g.n, .slice g.a g.len g.cap]] w fun e w' => e = .returned (.bool q) ∧ Below w.heap.size w w' ∧ (∀ b o v, w.cell? ⟨b, o, none⟩ = some v → w'.cell? ⟨b, o, none⟩ = some v) ∧ (∀ f : Fb, f.In w → f.In w') := by
  refine (alike_any f g q w hf hg h20 H).mono ?_
  rintro e w' ⟨rfl, hb⟩
  exact ⟨rfl, hb, fun b o v h => cell_on hb h, fun f h => h.on hb⟩

theorem own_drew {w : World} {B : Nat} {e : TypeId} {s : Nat} {v : Value} {n : Nat} {xs : List Value} (h : w.ownsRow B e s v n xs) : w.drew.ownsRow B e s v n xs := h

theorem flatF_set (ys : List Fb) (k : Nat) (f : Fb) (hk : k < ys.length) : ((flatF ys).set (k * 2) (.string f.n)).set (k * 2 + 1) (.slice f.a f.len f.cap) = flatF (ys.set k f) := by
  induction ys generalizing k with
  | nil => simp at hk
  | cons x r ih =>
    cases k with
    | zero => simp [flatF]
    | succ k =>
      have := ih k (by simpa using hk)
      rw [show (k + 1) * 2 = k * 2 + 1 + 1 by omega]
      simp only [flatF, List.set_cons_succ]
      rw [this]
theorem out_set (out fs : List Fb) (k : Nat) (f : Fb) (hk : k = out.length) (hf : k < fs.length) : (out ++ fs.drop k).set k f = (out ++ [f]) ++ fs.drop (k + 1) := by
  subst hk
  rw [List.set_append_right _ _ (Nat.le_refl _), Nat.sub_self, List.drop_eq_getElem_cons hf, List.set_cons_zero]
  simp

theorem infoZ : ∀ w, (zeroValue 25).run Try.prog w = .ok (.agg #[.string ⟨#[]⟩, .slice none 0 0]) w := Try.zeroValue25
theorem clear_run (w : World) (ty : TypeId) (b o n c : Nat) (hn : 0 < n) (hc : ∀ j, j < n * 2 → (w.cell? ⟨b, o + j, none⟩).isSome = true) (hf : ∀ j, j < n * 2 → w.frozen? ⟨b, o + j, none⟩ = false) :
    (Builtin.clear_ #[22] ty #[.slice (some ⟨b, o, none⟩) n c]).run Try.prog w = .ok (.tuple #[]) (w.setCells b o (Builtin.zeroCells #[.string ⟨#[]⟩, .slice none 0 0] n).toList) := by
  have hst := run_storeCells_cells (P := Try.prog) b o (Builtin.zeroCells #[.string ⟨#[]⟩, .slice none 0 0] n).toList 0 w (by simpa [size_zeroCells] using hc) (by simpa [size_zeroCells] using hf) (by
    intro v hv
    simp [Builtin.zeroCells] at hv
    obtain ⟨i, hi, rfl⟩ := hv
    rcases Nat.mod_two_eq_zero_or_one i with h | h <;> simp [h] <;> rfl)
  simp only [Nat.add_zero] at hst
  obtain ⟨m, rfl⟩ : ∃ m, n = m + 1 := ⟨n - 1, by omega⟩
  simp [Builtin.clear_, run_underlying Try.underlying22, Value.cells, hst]

theorem below_setCells {B : Nat} {a : World} {b : Nat} (hb : B ≤ b) : ∀ (vs : List Value) (o : Nat) (w : World), Below B a w → Below B a (w.setCells b o vs)
  | [], _, _, h => h
  | v :: r, o, w, h => by
    rw [World.setCells]
    exact below_setCells hb r (o + 1) _ (h.setCell (p := ⟨b, o, none⟩) hb v)

theorem sq_short {l : List Fc} (h : l.length < 2) : Sq l l := by
  refine ⟨?_, fun x => Iff.rfl⟩
  match l, h with
  | [], _ => exact List.Pairwise.nil
  | [x], _ => simp [Rise]

theorem RowF.at {w : World} {g i : Nat} {ys : List Fb} {f : Fb} (h : RowF w (some ⟨g, 0, none⟩) ys) (hi : ys[i]? = some f) : w.cell? ⟨g, i * 2, none⟩ = some (.string f.n) ∧ w.cell? ⟨g, i * 2 + 1, none⟩ = some (.slice f.a f.len f.cap) ∧ f.In w := by
  obtain ⟨hi', rfl⟩ := List.getElem?_eq_some_iff.1 hi
  obtain ⟨b, o, ha, hbl, c0, c1, hin⟩ := h.up hi'
  simp only [Option.some.injEq, Addr.mk.injEq, and_true] at ha
  obtain ⟨rfl, rfl⟩ := ha
  simp only [Nat.zero_add] at c0 c1
  exact ⟨c0, c1, hin⟩
theorem out_at {out fs : List Fb} {p i : Nat} (hp : out.length = p) (hi : p ≤ i) (hif : i < fs.length) : (out ++ fs.drop p)[i]? = some fs[i] := by
  rw [List.getElem?_append_right (by omega), List.getElem?_drop, show p + (i - out.length) = i by omega]
  simp [hif]

set_option maxHeartbeats 8000000 in
set_option maxRecDepth 20000 in
theorem compact_some (g n cap : Nat) (fs : List Fb) (w0 w : World) (hb : Below w0.heap.size w0 w) (hown : w.ownsRow w0.heap.size 25 2 (.slice (some ⟨g, 0, none⟩) n cap) n (flatF fs)) (hg : w0.heap.size ≤ g) (hcap : n ≤ cap) (_hcap' : cap ≤ 9223372036854775807) (hn1 : n ≤ fs.length) (hn2 : fs.length ≤ n) (hin : ∀ f ∈ fs, f.In w0) (hL : ∀ f ∈ fs, f.len ≤ 1000) (h1k : n ≤ 1000) (h2 : 2 ≤ n) (hsort : Hid (fs.Pairwise (fun x y => cmpF x.l y.l ≤ 0))) :
    Calls Try.prog 49 #[.slice (some ⟨g, 0, none⟩) n cap, .func (.func 36) #[] #[]] w fun e w' => ∃ (m c : Nat) (gs : List Fb), e = .returned (.slice (some ⟨g, 0, none⟩) m c) ∧ RowF w' (some ⟨g, 0, none⟩) gs ∧ m = gs.length ∧ Hid (Sq (fs.map Fb.l) (gs.map Fb.l)) ∧ Hid (∀ x ∈ gs, x ∈ fs) ∧ Below w0.heap.size w0 w' := by
  have hdr := in_drew
  have hd2 : decide ((n : Int) < 2) = false := by simp; omega
  go_enter Try.func49, Try.ntmps49
  go_wp2_with fail
  go_loopw [5] (fun i wr => ∃ k : Nat, 1 ≤ k ∧ k ≤ n ∧ i = .int .i64 k ∧ Hid (Sq ((fs.take k).map Fb.l) ((fs.take k).map Fb.l)) ∧ wr.ownsRow w0.heap.size 25 2 (.slice (some ⟨g, 0, none⟩) n cap) n (flatF fs) ∧ Below w0.heap.size w0 wr) (fun i _ => n - (intOf i).toNat)
  case atStart => exact ⟨1, Nat.le_refl _, by omega, rfl, hide (sq_short (by simp; omega)), hown, hb⟩
  case round =>
    clear hown hb
    obtain ⟨k, hk1, hk, rfl, HK, hown, hb⟩ := hrel
    by_cases hlt : k < n
    · obtain ⟨j, hjk⟩ : ∃ j, k = j + 1 := ⟨k - 1, by omega⟩
      have hrow := rowF_own hown (by omega) (fun f hf => (hin f hf).on hb)
      obtain ⟨b, o, ha, hbl, c0, c1, hin0⟩ := hrow.up (show k < fs.length by omega)
      obtain ⟨b', o', ha', hbl', c0', c1', hin1⟩ := hrow.up (show j < fs.length by omega)
      simp only [Option.some.injEq, Addr.mk.injEq, and_true] at ha ha'
      obtain ⟨rfl, rfl⟩ := ha
      obtain ⟨rfl, rfl⟩ := ha'
      simp only [Nat.zero_add] at c0 c1 c0' c1'
      have lf := hL fs[k] (List.getElem_mem (by omega))
      have e0 : (k : Int) - 1 = (j : Int) := by omega
      have e4 : IntKind.i64.wrap (j : Int) = (j : Int) := by simp [IntKind.wrap, IntKind.bits, IntKind.signed]; omega
      have e2 : (j : Int) < (n : Int) := by omega
      have e3 : (0 : Int) ≤ (j : Int) := by omega
      by_cases hz : fs[k].l = fs[j].l
      · have HQ : Hid (decide (fs[k].l = fs[j].l) = true) := hide (by simp [hz])
        have HS : Hid (Sq ((fs.take (k + 1)).map Fb.l) ((fs.take k).map Fb.l)) := by
          refine hide ?_
          subst hjk
          exact sq_same (by omega) hz (unhide HK)
        clear hz
        generalize fs[k] = x at c0 c1 hin0 lf HQ
        generalize fs[j] = y at c0' c1' hin1 HQ
        clear hjk
        go_wp2_with fail
        go_region_held3 (fun w' => w'.cell? ⟨g, k * 2, none⟩ = some (.string x.n) ∧ w'.cell? ⟨g, k * 2 + 1, none⟩ = some (.slice x.a x.len x.cap) ∧ w'.cell? ⟨g, j * 2, none⟩ = some (.string y.n) ∧ w'.cell? ⟨g, j * 2 + 1, none⟩ = some (.slice y.a y.len y.cap) ∧ x.In w' ∧ y.In w') (go_keep) (first | (go_at_call 36; refine (alike_k _ _ true _ (by simp [*]) (by simp [*]) lf HQ).mono ?_; rintro e w' ⟨rfl, hb', hk', hi⟩))
        have hown' := own_on (own_drew hown) hb'
        have hbw' : Below w0.heap.size w0 w' := hb.drew.trans (hb'.mono hb.size)
        clear c0 c1 c0' c1' hi e0 e4 e2 e3 hown hb hb' hk' hrow hin0 hin1
        go_wp2_with fail
        generalize hr : n - k = r
        generalize cap - k = rc
        have hr1 : k + r ≤ n := by omega
        have hr2 : n ≤ k + r := by omega
        have hr3 : 1 ≤ r := by omega
        clear hr
        go_loopw [5, 7] (fun i i2 wq => ∃ (p k2 : Nat) (out : List Fb), 1 ≤ k2 ∧ k2 ≤ r ∧ p + 1 ≤ k + k2 ∧ i = .int .i64 p ∧ i2 = .int .i64 k2 ∧ p ≤ out.length ∧ out.length ≤ p ∧ Hid (Sq ((fs.take (k + k2)).map Fb.l) (out.map Fb.l)) ∧ Hid (∀ x ∈ out, x ∈ fs) ∧ wq.ownsRow w0.heap.size 25 2 (.slice (some ⟨g, 0, none⟩) n cap) n (flatF (out ++ fs.drop p)) ∧ Below w0.heap.size w0 wq) (fun _ i2 _ => r - (intOf i2).toNat)
        case atStart => exact ⟨k, 1, fs.take k, Nat.le_refl _, hr3, Nat.le_refl _, rfl, rfl, by simp; omega, by simp; omega, HS, hide (fun x hx => List.mem_of_mem_take hx), by rw [List.take_append_drop]; exact hown', hbw'⟩
        case round =>
          clear hown' hbw' HS HK HQ
          obtain ⟨p, k2, out, h21, h2r, hp, rfl, rfl, ho1, ho2, HS, HO, hown, hb⟩ := hrel
          have hmem : ∀ f ∈ out ++ fs.drop p, f ∈ fs := by
            intro f hf
            rcases List.mem_append.1 hf with hf | hf
            · exact unhide HO f hf
            · exact List.mem_of_mem_drop hf
          have hylen : n = (out ++ fs.drop p).length := by simp; omega
          have hrow := rowF_own hown hylen (fun f hf => (hin f (hmem f hf)).on hb)
          clear hylen
          by_cases hq : k2 < r
          · obtain ⟨q0, q1, q2⟩ := hrow.at (out_at (i := p) (by omega) (by omega) (show p < fs.length by omega))
            clear q2
            generalize fs[p] = z at q0 q1
            obtain ⟨j2, hj2⟩ : ∃ j2, k2 = j2 + 1 := ⟨k2 - 1, by omega⟩
            obtain ⟨c0, c1, hin0⟩ := hrow.at (out_at (i := k + k2) (by omega) (by omega) (show k + k2 < fs.length by omega))
            obtain ⟨c0', c1', hin1⟩ := hrow.at (out_at (i := k + j2) (by omega) (by omega) (show k + j2 < fs.length by omega))
            have lf := hL fs[k + k2] (List.getElem_mem (by omega))
            have xmem : fs[k + k2] ∈ fs := List.getElem_mem (by omega)
            rw [Nat.add_mul] at c0 c1 c0' c1'
            have e0 : (k2 : Int) - 1 = (j2 : Int) := by omega
            have e4 : IntKind.i64.wrap (j2 : Int) = (j2 : Int) := by simp [IntKind.wrap, IntKind.bits, IntKind.signed]; omega
            have e2 : (j2 : Int) < (r : Int) := by omega
            have e3 : (0 : Int) ≤ (j2 : Int) := by omega
            by_cases hz : fs[k + k2].l = fs[k + j2].l
            · have HQ : Hid (decide (fs[k + k2].l = fs[k + j2].l) = true) := hide (by simp [hz])
              have HS' : Hid (Sq ((fs.take (k + (k2 + 1))).map Fb.l) (out.map Fb.l)) := by
                refine hide ?_
                subst hj2
                exact sq_same (i := k + j2) (by omega) hz (unhide HS)
              clear hz xmem
              generalize fs[k + k2] = x at c0 c1 hin0 lf HQ
              generalize fs[k + j2] = y at c0' c1' hin1 HQ
              clear hj2 q0 q1
              go_wp2_with fail
              go_region_held3 (fun w' => w'.cell? ⟨g, k * 2 + k2 * 2, none⟩ = some (.string x.n) ∧ w'.cell? ⟨g, k * 2 + k2 * 2 + 1, none⟩ = some (.slice x.a x.len x.cap) ∧ w'.cell? ⟨g, k * 2 + j2 * 2, none⟩ = some (.string y.n) ∧ w'.cell? ⟨g, k * 2 + j2 * 2 + 1, none⟩ = some (.slice y.a y.len y.cap) ∧ x.In w' ∧ y.In w') (go_keep) (first | (go_at_call 36; refine (alike_k _ _ true _ (by simp [*]) (by simp [*]) lf HQ).mono ?_; rintro e w' ⟨rfl, hb', hk', hi⟩))
              have hown' := own_on (own_drew hown) hb'
              have hbw' : Below w0.heap.size w0 w' := hb.drew.trans (hb'.mono hb.size)
              clear c0 c1 c0' c1' hi e0 e4 e2 e3 hown hb hb' hk' hrow hin0 hin1 hmem
              go_wp2_with fail
              go_roundw
              case rel => exact ⟨p, k2 + 1, out, by omega, by omega, by omega, rfl, by go_num, ho1, ho2, HS', HO, hown', hbw'⟩
              case measure => simp [intOf]; omega
            · have HQ : Hid (decide (fs[k + k2].l = fs[k + j2].l) = false) := hide (by simp [hz])
              have HS' : Hid (Sq ((fs.take (k + (k2 + 1))).map Fb.l) ((out ++ [fs[k + k2]]).map Fb.l)) := by
                refine hide ?_
                subst hj2
                rw [List.map_append]
                exact sq_new (i := k + j2) (unhide hsort) (by omega) hz (unhide HS)
              have HO' : Hid (∀ x ∈ out ++ [fs[k + k2]], x ∈ fs) := by
                refine hide (fun x hx => ?_)
                rcases List.mem_append.1 hx with hx | hx
                · exact unhide HO x hx
                · rw [List.mem_singleton.1 hx]; exact xmem
              have HF : Hid (((flatF (out ++ fs.drop p)).set (p * 2) (.string fs[k + k2].n)).set (p * 2 + 1) (.slice fs[k + k2].a fs[k + k2].len fs[k + k2].cap) = flatF ((out ++ [fs[k + k2]]) ++ fs.drop (p + 1))) := by
                refine hide ?_
                rw [flatF_set _ _ _ (by simp; omega), out_set _ _ _ _ (by omega) (by omega)]
              clear hz xmem HS HO
              generalize fs[k + k2] = x at c0 c1 hin0 lf HQ HS' HO' HF
              generalize fs[k + j2] = y at c0' c1' hin1 HQ
              clear hj2
              go_wp2_with fail
              go_region_held3 (fun w' => w'.cell? ⟨g, k * 2 + k2 * 2, none⟩ = some (.string x.n) ∧ w'.cell? ⟨g, k * 2 + k2 * 2 + 1, none⟩ = some (.slice x.a x.len x.cap) ∧ w'.cell? ⟨g, k * 2 + j2 * 2, none⟩ = some (.string y.n) ∧ w'.cell? ⟨g, k * 2 + j2 * 2 + 1, none⟩ = some (.slice y.a y.len y.cap) ∧ x.In w' ∧ y.In w') (go_keep) (first | (go_at_call 36; refine (alike_k _ _ false _ (by simp [*]) (by simp [*]) lf HQ).mono ?_; rintro e w' ⟨rfl, hb', hk', hi⟩))
              have hown' := own_on (own_drew hown) hb'
              have hbw' : Below w0.heap.size w0 w' := hb.drew.trans (hb'.mono hb.size)
              have d0 := hk' _ _ _ c0
              have d1 := hk' _ _ _ c1
              have s0 := hk' _ _ _ q0
              have s1 := hk' _ _ _ q1
              have f0 := hown'.frozenAt (p * 2)
              have f1 := hown'.frozenAt (p * 2 + 1)
              clear c0 c1 c0' c1' hi e0 e4 e2 e3 hown hb hb' hk' hrow hin0 hin1 hmem q0 q1
              have o1 := hown'.stored (p * 2) (.string x.n)
              have o2 := o1.1.stored (p * 2 + 1) (.slice x.a x.len x.cap)
              have hown2 := o2.1
              rw [unhide HF] at hown2
              have hbw2 := (hbw'.setCell (p := ⟨g, p * 2, none⟩) hg (.string x.n)).setCell (p := ⟨g, p * 2 + 1, none⟩) hg (.slice x.a x.len x.cap)
              clear o1 o2 hown' hbw' HF
              go_wp2_with fail
              go_roundw
              case rel => exact ⟨p + 1, k2 + 1, out ++ [x], by omega, by omega, by omega, by go_num, by go_num, by simp; omega, by simp; omega, HS', HO', hown2, hbw2⟩
              case measure => simp [intOf]; omega
          · have hk2 : k + k2 = n := by omega
            have HS' : Hid (Sq (fs.map Fb.l) (out.map Fb.l)) := by
              refine hide ?_
              have := unhide HS
              rwa [List.take_of_length_le (by omega)] at this
            have hpn : p < n := by omega
            have hcl : ∀ ty, (Builtin.clear_ #[22] ty #[.slice (some ⟨g, p * 2, none⟩) (n - p) (cap - p)]).run Try.prog wr = .ok (.tuple #[]) (wr.setCells g (p * 2) (Builtin.zeroCells #[.string ⟨#[]⟩, .slice none 0 0] (n - p)).toList) :=
              fun ty => clear_run wr ty g (p * 2) (n - p) (cap - p) (by omega) (fun j hj => by
                have := hown.cellAt (p * 2 + j) (by omega)
                rw [this]
                have h2 : p * 2 + j < (flatF (out ++ fs.drop p)).length := by rw [hown.1]; omega
                simp [h2]) (fun j _ => hown.frozenAt _)
            have HR : Hid (RowF (wr.setCells g (p * 2) (Builtin.zeroCells #[.string ⟨#[]⟩, .slice none 0 0] (n - p)).toList) (some ⟨g, 0, none⟩) out) := by
              refine hide ⟨fun f hf => (hin f (unhide HO f hf)).on (below_setCells hg _ _ _ hb), Or.inr ⟨g, 0, rfl, ?_, fun i f hf => ?_⟩⟩
              · have h1 := (hown.lt g rfl).2
                have h2 := (below_setCells (Nat.le_refl g) (Builtin.zeroCells #[.string ⟨#[]⟩, .slice none 0 0] (n - p)).toList (p * 2) wr (Below.refl g wr)).size
                omega
              · have hil := (List.getElem?_eq_some_iff.1 hf).1
                obtain ⟨x0, x1, _⟩ := hrow.at (i := i) (f := f) (by rw [List.getElem?_append_left hil]; exact hf)
                rw [Nat.zero_add, World.cell?_setCells_out g _ _ _ _ (fun _ => by simp; omega), World.cell?_setCells_out g _ _ _ _ (fun _ => by simp; omega)]
                exact ⟨x0, x1⟩
            have hbf := below_setCells hg (Builtin.zeroCells #[.string ⟨#[]⟩, .slice none 0 0] (n - p)).toList (p * 2) wr hb
            clear hrow hmem HS hk2
            go_wp2_with fail
            go_ret
            exact ⟨p, cap, out, rfl, unhide HR, by omega, HS', HO, hbf⟩
      · have HQ : Hid (decide (fs[k].l = fs[j].l) = false) := hide (by simp [hz])
        have HS : Hid (Sq ((fs.take (k + 1)).map Fb.l) ((fs.take (k + 1)).map Fb.l)) := by
          refine hide ?_
          rw [show (fs.take (k + 1)).map Fb.l = (fs.take k).map Fb.l ++ [fs[k].l] from take_l fs k (by omega)]
          subst hjk
          have := sq_new (unhide hsort) (by omega) hz (unhide HK)
          rwa [take_l fs (j + 1) (by omega)] at this
        clear hz
        generalize fs[k] = x at c0 c1 hin0 lf HQ
        generalize fs[j] = y at c0' c1' hin1 HQ
        clear hjk
        go_wp2_with fail
        go_region_held3 (fun w' => w'.cell? ⟨g, k * 2, none⟩ = some (.string x.n) ∧ w'.cell? ⟨g, k * 2 + 1, none⟩ = some (.slice x.a x.len x.cap) ∧ w'.cell? ⟨g, j * 2, none⟩ = some (.string y.n) ∧ w'.cell? ⟨g, j * 2 + 1, none⟩ = some (.slice y.a y.len y.cap) ∧ x.In w' ∧ y.In w') (go_keep) (first | (go_at_call 36; refine (alike_k _ _ false _ (by simp [*]) (by simp [*]) lf HQ).mono ?_; rintro e w' ⟨rfl, hb', hk', hi⟩))
        have hown' := own_on (own_drew hown) hb'
        have hbw' : Below w0.heap.size w0 w' := hb.drew.trans (hb'.mono hb.size)
        clear c0 c1 c0' c1' hi e0 e4 e2 e3 hown hb hb' hk' hrow hin0 hin1
        go_wp2_with fail
        go_roundw
        case rel => exact ⟨k + 1, by omega, by omega, by go_num, HS, hown', hbw'⟩
        case measure => simp [intOf]; omega
    · have hrow := rowF_own hown (by omega) (fun f hf => (hin f hf).on hb)
      have HS : Hid (Sq (fs.map Fb.l) (fs.map Fb.l)) := by
        refine hide ?_
        have := unhide HK
        rwa [List.take_of_length_le (by omega)] at this
      go_wp2_with fail
      go_ret
      exact ⟨n, cap, fs, rfl, hrow, by omega, HS, hide (fun x hx => hx), hb⟩

theorem compact_any (a : Option Addr) (n cap : Nat) (fs : List Fb) (w0 w : World) (hb : Below w0.heap.size w0 w) (hown : w.ownsRow w0.heap.size 25 2 (.slice a n cap) n (flatF fs)) (hn : n = fs.length) (hin : ∀ f ∈ fs, f.In w0) (hL : ∀ f ∈ fs, f.len ≤ 1000) (h1k : n ≤ 1000) (hsort : fs.Pairwise (fun x y => cmpF x.l y.l ≤ 0)) :
    Calls Try.prog 49 #[.slice a n cap, .func (.func 36) #[] #[]] w fun e w' => ∃ (m c : Nat) (gs : List Fb), e = .returned (.slice a m c) ∧ RowF w' a gs ∧ m = gs.length ∧ Hid (Sq (fs.map Fb.l) (gs.map Fb.l)) ∧ Hid (∀ x ∈ gs, x ∈ fs) ∧ Below w0.heap.size w0 w' := by
  have hrow := rowF_own hown hn (fun f hf => (hin f hf).on hb)
  by_cases h2 : n < 2
  · have HS : Hid (Sq (fs.map Fb.l) (fs.map Fb.l)) := hide (sq_short (by simp; omega))
    have HL := hide hn
    have hd2 : decide ((n : Int) < 2) = true := by simp; omega
    clear hn
    go_enter Try.func49, Try.ntmps49
    go_wp2_with fail
    go_ret
    exact ⟨n, cap, fs, rfl, hrow, unhide HL, HS, hide (fun x hx => hx), hb⟩
  · rcases hown.2 with ⟨hv, h0⟩ | ⟨g, cap', cur, hv, hB, hg, hc1, hc2, hc3, ht⟩
    · omega
    · simp only [Value.slice.injEq] at hv
      obtain ⟨rfl, -, rfl⟩ := hv
      exact compact_some g n cap fs w0 w hb hown hB hc1 (by unfold maxLen at hc2; omega) (by omega) (by omega) hin hL h1k (by omega) (hide hsort)
end Go.Proofs.Ytmnonjacomabbaa

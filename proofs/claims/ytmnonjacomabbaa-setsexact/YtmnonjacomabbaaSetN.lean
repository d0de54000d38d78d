/- What the law's TwinFact and TwinFacts answer: new memory; what Spoil leaves. -/
import Derived.Test.YtmnonjacomabbaaSetH
namespace Go.Proofs.Ytmnonjacomabbaa
open Go.RowKit
open V

set_option maxHeartbeats 4000000 in
theorem twinN_some (n : ByteArray) (ad : Addr) (len cap : Nat) (vs : List Vb) (w : World) (hc : Hid (∀ (j : Nat) (u : Value), (flatV vs)[j]? = some u → w.cell? (ad.add j) = some u)) (hl : len ≤ vs.length) (hl' : vs.length ≤ len) (h20 : len ≤ 20) :
    Calls Try.prog 28 #[.agg #[.string n, .slice (some ad) len cap]] w fun e w' => ∃ f : Fb, e = .returned (.agg #[.string f.n, .slice f.a f.len f.cap]) ∧ f.New w.heap.size w' ∧ f.n = n ∧ f.vs = vs ∧ Below w.heap.size w w' := by
  obtain ⟨i0, hi, hz0, hz1, hz2⟩ := info_parts info44
  obtain ⟨tb, t1, t2, ts⟩ := tw_world w (twA n (some ad) len cap) (.cells #[.string ⟨#[]⟩, .slice none 0 0] 25) (.cells #[.string n, .slice none 0 0] 25)
  go_enter Try.func28, Try.ntmps28
  go_wp2_with (at_builtin; refine wpList_append_own_wide _ rfl _ _ 23 rfl (w.heap.size + 3) 47 i0 (.agg #[.int .i64 0, .int .i64 0, .string ⟨#[]⟩]) 3 32 Try.underlying23 hi hz0 hz1 hz2 rfl (by decide) _ 0 [] rfl ⟨rfl, Or.inl ⟨rfl, rfl⟩⟩ ad len cap (flatV vs) rfl ?c0 ?c1 ?c2 ?c3 ?c4 ?c5 ?_)
  case c0 => rw [flat_len]; omega
  case c1 =>
    intro j u hu
    exact cell_on tb (unhide hc j u hu)
  case c2 => exact flat_one vs
  case c3 => unfold maxLen; omega
  case c4 => omega
  case c5 => simp
  intro v' w2 hown' hgrow hnil
  have u1 : w2.heap[w.heap.size + 1]? = some (.cells #[.string ⟨#[]⟩, .slice none 0 0] 25) := (hgrow.block _ (by simp) (by simp [Value.ownBlock])).trans t1
  have u2 : w2.heap[w.heap.size + 1 + 1]? = some (.cells #[.string n, .slice none 0 0] 25) := (hgrow.block _ (by simp) (by simp [Value.ownBlock])).trans t2
  have b2 : Below w.heap.size w w2 := tb.grown hgrow (by simp; omega) (by simp [Value.ownBlock])
  clear t1 t2 hnil tb ts hgrow
  obtain ⟨x0, x1⟩ := pair_of u1
  obtain ⟨y0, y1⟩ := pair_of u2
  have z0 : w2.frozen? ⟨w.heap.size + 1, 0, none⟩ = false := Lib.frozen_of_heap u1 0
  have z1 : w2.frozen? ⟨w.heap.size + 1, 1, none⟩ = false := Lib.frozen_of_heap u1 1
  have z2 : w2.frozen? ⟨w.heap.size + 1 + 1, 1, none⟩ = false := Lib.frozen_of_heap u2 1
  obtain ⟨ao, cp, rfl⟩ : ∃ ao cp, v' = .slice ao len cp := by
    rcases hown'.2 with ⟨hv, h0⟩ | ⟨g, cap, cur, hv, _⟩
    · exact ⟨none, 0, by rw [hv, h0]⟩
    · exact ⟨_, _, hv⟩
  go_wp2
  have o1 := ownsRow_setCell_below hown' (a := ⟨w.heap.size + 1 + 1, 1, none⟩) (by show w.heap.size + 1 + 1 < w.heap.size + 3; omega) (.slice ao len cp)
  have o2 := ownsRow_setCell_below o1 (a := ⟨w.heap.size + 1, 0, none⟩) (by show w.heap.size + 1 < w.heap.size + 3; omega) (.string n)
  have o3 := ownsRow_setCell_below o2 (a := ⟨w.heap.size + 1, 1, none⟩) (by show w.heap.size + 1 < w.heap.size + 3; omega) (.slice ao len cp)
  refine bodyPost_ret (v := .agg #[.string n, .slice ao len cp]) (by simp [results, Try.results28, go_sem, x0, x1]) rfl ?_
  refine ⟨⟨n, ao, len, cp, vs⟩, rfl, ⟨own_mono o3 (by omega), by show len = vs.length; omega⟩, rfl, rfl, ?_⟩
  exact ((b2.setCell (p := ⟨w.heap.size + 1 + 1, 1, none⟩) (by show w.heap.size ≤ w.heap.size + 1 + 1; omega) _).setCell (p := ⟨w.heap.size + 1, 0, none⟩) (by show w.heap.size ≤ w.heap.size + 1; omega) _).setCell (p := ⟨w.heap.size + 1, 1, none⟩) (by show w.heap.size ≤ w.heap.size + 1; omega) _

set_option maxHeartbeats 1000000 in
theorem twinN_none (n : ByteArray) (w : World) :
    Calls Try.prog 28 #[.agg #[.string n, .slice none 0 0]] w fun e w' => ∃ f : Fb, e = .returned (.agg #[.string f.n, .slice f.a f.len f.cap]) ∧ f.New w.heap.size w' ∧ f.n = n ∧ f.vs = [] ∧ Below w.heap.size w w' := by
  obtain ⟨i0, hi, hz0, hz1, hz2⟩ := info_parts info44
  go_enter Try.func28, Try.ntmps28
  go_wp2_with (at_builtin; refine wpList_append_own_none rfl _ _ 23 rfl (w.heap.size + 3) 47 i0 3 Try.underlying23 hi _ 0 [] rfl ⟨rfl, Or.inl ⟨rfl, rfl⟩⟩ rfl ?_)
  refine bodyPost_ret (v := .agg #[.string n, .slice none 0 0]) (by simp [results, Try.results28, go_sem]) rfl ?_
  exact ⟨⟨n, none, 0, 0, []⟩, rfl, ⟨World.ownsRow_nil _ _ _ _, rfl⟩, rfl, rfl, (((Below.refl _ _).alloc (Nat.le_refl _) _).alloc (by simp) _).alloc (by simp; omega) _⟩

theorem twin_new (f : Fb) (w : World) (hf : f.In w) (hnil : f.a = none → f.cap = 0) (h20 : f.len ≤ 20) :
    Calls Try.prog 28 #[.agg #[.string f.n, .slice f.a f.len f.cap]] w fun e w' => ∃ g : Fb, e = .returned (.agg #[.string g.n, .slice g.a g.len g.cap]) ∧ g.New w.heap.size w' ∧ g.n = f.n ∧ g.vs = f.vs ∧ Below w.heap.size w w' := by
  obtain ⟨n, a, len, cap, vs⟩ := f
  obtain ⟨hrow, hlen⟩ := hf
  simp only at hrow hlen hnil h20 ⊢
  cases a with
  | none =>
    have hv : vs = [] := by
      rcases hrow with h | ⟨b, o, h, _⟩
      · exact h
      · cases h
    subst hv
    simp at hlen
    have := hnil rfl
    subst hlen this
    exact twinN_none n w
  | some ad =>
    refine twinN_some n ad len cap vs w (hide ?_) (by omega) (by omega) h20
    rcases hrow with h | ⟨b, o, h, hlt, hc⟩
    · subst h; intro j u hu; simp [flatV] at hu
    · simp only [Option.some.injEq] at h
      subst h
      intro j u hu
      rw [WideShapes.add_plain]
      exact flat_cells vs o hc j u hu

set_option maxHeartbeats 4000000 in
theorem twins_any (a : Option Addr) (len cap : Nat) (fs : List Fb) (w : World) (hrow : RowF w a fs) (hl : len ≤ fs.length) (hl' : fs.length ≤ len) (h1k : len ≤ 1000) (hL : ∀ f ∈ fs, f.Light) (hnil : ∀ f ∈ fs, f.a = none → f.cap = 0) :
    Calls Try.prog 10 #[.slice a len cap] w fun e w' => ∃ (q : Option Addr) (n c : Nat) (gs : List Fb), e = .returned (.slice q n c) ∧ Told w.heap.size w' q n c gs (fs.map Fb.l) ∧ Below w.heap.size w w' := by
  obtain ⟨i0, hi, hz0, hz1, hz2⟩ := info_parts infoF
  have HNIL := hide hnil
  clear hnil
  go_enter Try.func10, Try.ntmps10
  go_wp2_with fail
  go_loopw [3, 4] (fun v i wr => ∃ (k n cq : Nat) (aq : Option Addr) (gs : List Fb), k ≤ len ∧ i = .int .i64 k ∧ v = .slice aq n cq ∧ n ≤ k ∧ k ≤ n ∧ MadeL w.heap.size wr (.slice aq n cq) n gs ∧ Hid (gs.map Fb.c = (fs.take k).map Fb.c) ∧ Below w.heap.size w wr) (fun _ i _ => len - (intOf i).toNat)
  case atStart => exact ⟨0, 0, 0, none, [], Nat.zero_le _, rfl, rfl, Nat.le_refl _, Nat.le_refl _, ⟨World.ownsRow_nil _ _ _ _, by simp, rfl⟩, hide rfl, Below.refl _ _⟩
  case round =>
    obtain ⟨k, n, cq, aq, gs, hk, rfl, rfl, hn1, hn2, hM, HA, hbw⟩ := hrel
    by_cases hlt : k < len
    · obtain ⟨b, o, ha, hbl, d0, d1, hfin⟩ := (hrow.on hbw).up (show k < fs.length by omega)
      subst ha
      have lf := hL fs[k] (List.getElem_mem (by omega))
      have hfn := unhide HNIL fs[k] (List.getElem_mem (by omega))
      have HE : Hid ((fs.take (k + 1)).map Fb.c = (fs.take k).map Fb.c ++ [fs[k].c]) := by
        refine hide ?_
        rw [List.take_succ_eq_append_getElem (show k < fs.length by omega), List.map_append]; rfl
      generalize fs[k] = f at d0 d1 hfin lf HE hfn
      have htw := twin_new f wr hfin hfn lf.len
      clear hfn
      go_wp2_with fail
      refine htw.mono ?_
      rintro e w2 ⟨g, rfl, hnew, hg1, hg2, hb2⟩
      have hgc : g.c = f.c := by simp [Fb.c, hg1, hg2]
      have HG := hide hgc
      have hM2 := hM.on hb2
      have hbw2 := bt hbw hb2
      have hnew2 := hnew.mono (B' := w.heap.size) hbw.size
      clear d0 d1 hb2 hnew hM hfin hbl hg1 hg2 hgc htw
      have hsz := hbw2.size
      go_wp2_with (at_builtin; refine wpList_append_own_wide _ rfl _ _ 22 rfl w.heap.size 25 i0 (.agg #[.string ⟨#[]⟩, .slice none 0 0]) 2 40 Try.underlying22 hi hz0 hz1 hz2 rfl (by decide) _ n (flatF gs) rfl (hM2.own.alloc _) ⟨w2.heap.size, 0, none⟩ 1 1 [.string g.n, .slice g.a g.len g.cap] rfl rfl ?c1 ?c2 ?c3 ?c4 ?c5 ?_)
      case c1 => exact cells_new [.string g.n, .slice g.a g.len g.cap] 25 rfl
      case c2 => intro u hu; simp at hu; rcases hu with rfl | rfl <;> rfl
      case c3 => unfold maxLen; omega
      case c4 => omega
      case c5 => simp; omega
      intro v' w3 hown3 hgrow hnil3
      obtain ⟨aq3, cq3, rfl⟩ := own_slice hown3
      have hbb : Below w2.heap.size w2 (w2.alloc (.cells #[.string g.n, .slice g.a g.len g.cap] 25)) := (Below.refl _ _).alloc (Nat.le_refl _) _
      have hM3 := (hM2.on hbb).snoc (hnew2.on hbb) hown3 hgrow
      have hbw3 := (bt hbw2 hbb).grown hgrow (by simp; omega) (fun m hm => (hM2.own.lt m hm).1)
      have HA3 : Hid ((gs ++ [g]).map Fb.c = (fs.take (k + 1)).map Fb.c) := by
        refine hide ?_
        rw [unhide HE, List.map_append, unhide HA]
        simp [unhide HG]
      clear hgrow hnil3 hM2 hbw2 hnew2 hown3 hbb HA HE HG
      go_wp2_with fail
      go_roundw
      case rel => exact ⟨k + 1, n + 1, cq3, aq3, gs ++ [g], by omega, by go_num, rfl, by omega, by omega, hM3, HA3, hbw3⟩
      case measure => simp [intOf]; omega
    · have hc : gs.map Fb.c = fs.map Fb.c := by
        have := unhide HA
        rwa [List.take_of_length_le (by omega)] at this
      have HT : Hid (Told w.heap.size wr aq n cq gs (fs.map Fb.l)) := hide ⟨hM, lights_of_c hc (fun f hf => ⟨hL f hf, (hrow.1 f hf).len⟩) (fun g hg => (hM.new g hg).len), map_l_of_c hc⟩
      clear hc
      go_wp2_with fail
      go_ret
      exact ⟨aq, n, cq, gs, rfl, unhide HT, hbw⟩

/-- A row that can be written: from block B on, of elements of type T. -/
def Shape (B : Nat) (w : World) (T sz : Nat) (a : Option Addr) (n : Nat) : Prop := n = 0 ∨ ∃ g cur, a = some ⟨g, 0, none⟩ ∧ B ≤ g ∧ w.heap[g]? = some (.cells cur T (0, 0)) ∧ n * sz ≤ cur.size
theorem Shape.set {B : Nat} {w : World} {T sz : Nat} {a : Option Addr} {n : Nat} (h : Shape B w T sz a n) (b o : Nat) (u : Value) : Shape B (w.setCell ⟨b, o, none⟩ u) T sz a n := by
  rcases h with h | ⟨g, cur, ha, hB, hg, hs⟩
  · exact Or.inl h
  · by_cases e : b = g
    · subst e
      exact Or.inr ⟨b, _, ha, hB, heap_setCell_same w b o cur T u hg, by simpa using hs⟩
    · exact Or.inr ⟨g, cur, ha, hB, by rw [heap_setCell_other w ⟨b, o, none⟩ g u (fun e' => e e'.symm)]; exact hg, hs⟩
theorem shape_own {B : Nat} {w : World} {T : TypeId} {sz : Nat} {a : Option Addr} {n cap : Nat} {xs : List Value} (h : w.ownsRow B T sz (.slice a n cap) n xs) : Shape B w T sz a n := by
  rcases h.2 with ⟨_, h0⟩ | ⟨g, cap', cur, hv, hB, hg, hc1, _, hc3, _⟩
  · exact Or.inl h0
  · simp only [Value.slice.injEq] at hv
    obtain ⟨rfl, _, rfl⟩ := hv
    exact Or.inr ⟨g, cur, rfl, hB, hg, by rw [hc3]; exact Nat.mul_le_mul_right _ hc1⟩
theorem shape_cell {w : World} {T g j : Nat} {cur : Array Value} (hg : w.heap[g]? = some (.cells cur T (0, 0))) (hj : j < cur.size) : ∃ v, w.cell? ⟨g, j, none⟩ = some v := by
  rw [Lib.cell_of_heap hg]
  exact ⟨cur[j], by simp [hj]⟩

/-- What Spoil leans on while it writes. -/
structure Sp (B : Nat) (w : World) (g n : Nat) (gs : List Fb) : Prop where
  row : Shape B w 25 2 (some ⟨g, 0, none⟩) n
  args : ∀ f ∈ gs, Shape B w 47 3 f.a f.len
  head : ∀ (i : Nat) (f : Fb), gs[i]? = some f → w.cell? ⟨g, i * 2 + 1, none⟩ = some (.slice f.a f.len f.cap)
theorem cell_other {w : World} {b o g j : Nat} {u : Value} (h : b ≠ g ∨ o ≠ j) : (w.setCell ⟨b, o, none⟩ u).cell? ⟨g, j, none⟩ = w.cell? ⟨g, j, none⟩ := by
  refine World.cell?_setCell_other _ _ _ _ (fun e => ?_)
  simp only [Addr.mk.injEq, and_true] at e
  omega
theorem Sp.setArg {B : Nat} {w : World} {g n : Nat} {gs : List Fb} (h : Sp B w g n gs) {b : Nat} (hne : b ≠ g) (o : Nat) (u : Value) : Sp B (w.setCell ⟨b, o, none⟩ u) g n gs :=
  ⟨h.row.set b o u, fun f hf => (h.args f hf).set b o u, fun i f hf => by rw [cell_other (Or.inl hne)]; exact h.head i f hf⟩
theorem Sp.setName {B : Nat} {w : World} {g n : Nat} {gs : List Fb} (h : Sp B w g n gs) (k : Nat) (u : Value) : Sp B (w.setCell ⟨g, k * 2, none⟩ u) g n gs :=
  ⟨h.row.set g _ u, fun f hf => (h.args f hf).set g _ u, fun i f hf => by rw [cell_other (Or.inr (by omega))]; exact h.head i f hf⟩

set_option maxHeartbeats 4000000 in
theorem spoil_some (B g n cap : Nat) (gs : List Fb) (w : World) (hS : Sp B w g n gs) (hn1 : n ≤ gs.length) (hn2 : gs.length ≤ n) (h1k : n ≤ 1000) (hl : ∀ f ∈ gs, f.len ≤ 1000) :
    Calls Try.prog 24 #[.slice (some ⟨g, 0, none⟩) n cap] w fun e w' => e = .returned (.tuple #[]) ∧ Below B w w' := by
  go_enter Try.func24, Try.ntmps24
  go_wp2_with fail
  go_loopw [2, 3] (fun i _ wr => ∃ k : Nat, k ≤ n ∧ i = .int .i64 k ∧ Sp B wr g n gs ∧ Below B w wr) (fun i _ _ => n - (intOf i).toNat)
  case atStart => exact ⟨0, Nat.zero_le _, rfl, hS, Below.refl _ _⟩
  case round =>
    clear hS
    obtain ⟨k, hk, rfl, hS, hb⟩ := hrel
    by_cases hlt : k < n
    · have hget : gs[k]? = some gs[k] := by simp [show k < gs.length by omega]
      have HG : Hid (∃ f, gs[k]? = some f ∧ f ∈ gs) := hide ⟨gs[k], hget, List.getElem_mem (by omega)⟩
      obtain ⟨f, hgf, hfm⟩ := unhide HG
      clear hget HG
      have hfl := hl f hfm
      obtain ⟨fn, fa, fl, fc, fv⟩ := f
      have HGF := hide hgf
      have HFM := hide hfm
      clear hgf hfm
      have c1 := hS.head k _ (unhide HGF)
      simp only at c1 hfl
      go_wp2_with fail
      clear c1
      go_loopw [3] (fun j wq => ∃ t : Nat, t ≤ fl ∧ j = .int .i64 t ∧ Sp B wq g n gs ∧ Below B w wq) (fun j _ => fl - (intOf j).toNat)
      case atStart => exact ⟨0, Nat.zero_le _, rfl, hS, hb⟩
      case round =>
        clear hS hb
        obtain ⟨t, ht, rfl, hS, hb⟩ := hrel
        have c1 := hS.head k _ (unhide HGF)
        simp only at c1
        by_cases htl : t < fl
        · rcases hS.args _ (unhide HFM) with h0 | ⟨gf, cur, ha, hB, hg, hs⟩
          · simp only at h0; omega
          · simp only at ha hs
            subst ha
            obtain ⟨v0, d0⟩ := shape_cell hg (show t * 3 < cur.size by omega)
            obtain ⟨v1, d1⟩ := shape_cell hg (show t * 3 + 1 < cur.size by omega)
            obtain ⟨v2, d2⟩ := shape_cell hg (show t * 3 + 2 < cur.size by omega)
            have z0 : wr.frozen? ⟨gf, t * 3, none⟩ = false := Lib.frozen_of_heap hg _
            have z1 : wr.frozen? ⟨gf, t * 3 + 1, none⟩ = false := Lib.frozen_of_heap hg _
            have z2 : wr.frozen? ⟨gf, t * 3 + 2, none⟩ = false := Lib.frozen_of_heap hg _
            have hne : gf ≠ g := by
              rcases hS.row with h0 | ⟨g', cur', ha', _, hg', _⟩
              · omega
              · simp only [Option.some.injEq, Addr.mk.injEq, and_true] at ha'
                obtain ⟨rfl, _⟩ := ha'
                intro e
                subst e
                rw [hg] at hg'
                simp at hg'
            have hS' := ((hS.setArg hne (t * 3) (.int .i64 9)).setArg hne (t * 3 + 1) (.int .i64 7)).setArg hne (t * 3 + 2) (.string ⟨#[]⟩)
            have hb' := ((hb.setCell (p := ⟨gf, t * 3, none⟩) hB (.int .i64 9)).setCell (p := ⟨gf, t * 3 + 1, none⟩) hB (.int .i64 7)).setCell (p := ⟨gf, t * 3 + 2, none⟩) hB (.string ⟨#[]⟩)
            clear hg hs hS hb hne
            go_wp2_with fail
            go_roundw
            case rel => exact ⟨t + 1, by omega, by go_num, hS', hb'⟩
            case measure => simp [intOf]; omega
        · rcases hS.row with h0 | ⟨g', cur', ha', hB', hg', hs'⟩
          · omega
          · simp only [Option.some.injEq, Addr.mk.injEq, and_true] at ha'
            obtain ⟨rfl, _⟩ := ha'
            obtain ⟨v0, d0⟩ := shape_cell hg' (show k * 2 < cur'.size by omega)
            have z0 : wr.frozen? ⟨g, k * 2, none⟩ = false := Lib.frozen_of_heap hg' _
            have hS' := hS.setName k (.string ⟨#[115, 112, 111, 105, 108, 116]⟩)
            have hb' := hb.setCell (p := ⟨g, k * 2, none⟩) hB' (.string ⟨#[115, 112, 111, 105, 108, 116]⟩)
            clear hg' hs' hS hb
            go_wp2_with fail
            go_roundw
            case rel => exact ⟨k + 1, by omega, by go_num, hS', hb'⟩
            case measure => simp [intOf]; omega
    · go_wp2_with fail
      go_end0
      exact ⟨rfl, hb⟩

set_option maxHeartbeats 1000000 in
theorem spoil_none (B cap : Nat) (a : Option Addr) (w : World) :
    Calls Try.prog 24 #[.slice a 0 cap] w fun e w' => e = .returned (.tuple #[]) ∧ Below B w w' := by
  go_enter Try.func24, Try.ntmps24
  go_wp2_with fail
  go_loopw [2, 3] (fun i _ wr => i = .int .i64 0 ∧ Below B w wr) (fun _ _ _ => 0)
  case atStart => exact ⟨rfl, Below.refl _ _⟩
  case round =>
    obtain ⟨rfl, hb⟩ := hrel
    go_wp2_with fail
    go_end0
    exact ⟨rfl, hb⟩

/-- What is told is new memory: to spoil it leaves all below as it was. -/
theorem spoil_told {B : Nat} {a : Option Addr} {n cap : Nat} {gs : List Fb} {l : List Fc} (w : World) (h : Told B w a n cap gs l) (h1k : n ≤ 1000) :
    Calls Try.prog 24 #[.slice a n cap] w fun e w' => e = .returned (.tuple #[]) ∧ Below B w w' := by
  rcases shape_own h.made.own with h0 | ⟨g, cur, ha, hB, hg, hs⟩
  · subst h0; exact spoil_none B cap a w
  · subst ha
    refine spoil_some B g n cap gs w ⟨shape_own h.made.own, fun f hf => shape_own (h.made.new f hf).own, fun i f hf => ?_⟩ (by rw [h.len]; omega) (by rw [h.len]; omega) h1k (fun f hf => by have := (h.light f hf).len; omega)
    have := h.row.at hf
    exact this.2.1
end Go.Proofs.Ytmnonjacomabbaa

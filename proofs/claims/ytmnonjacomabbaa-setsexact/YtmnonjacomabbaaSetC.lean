/- What is new memory: rows that a call owns; what slices.Grow of nothing and sets.copied answer. -/
import Derived.Test.YtmnonjacomabbaaSetB
import Derived.Test.YtmnonjacomabbaaShelfG
namespace Go.Proofs.Ytmnonjacomabbaa
open Go.RowKit
open V

theorem infoF : (Try.prog.info? 25).map (fun i => (i.zero, i.size, i.bytes)) = some (some (.agg #[.string ⟨#[]⟩, .slice none 0 0]), 2, 40) := by kernel_rfl

theorem own_on {w w' : World} {B : Nat} {e : TypeId} {s : Nat} {v : Value} {n : Nat} {xs : List Value} (h : w.ownsRow B e s v n xs) (hb : Below w.heap.size w w') : w'.ownsRow B e s v n xs :=
  h.kept (row := none) ⟨hb.os, hb.tape, hb.output, hb.size, fun k hk _ => hb.block k hk⟩ (by cases hv : v.ownBlock <;> simp)
theorem own_set {w : World} {B : Nat} {e : TypeId} {s : Nat} {v : Value} {n : Nat} {xs : List Value} (h : w.ownsRow B e s v n xs) (p : Addr) (u : Value) (hne : v.ownBlock ≠ some p.block) : (w.setCell p u).ownsRow B e s v n xs :=
  h.kept (row := some p.block) ⟨rfl, rfl, rfl, by simp, fun k _ hk => Below.heap_setCell _ _ _ _ (fun e => hk (by rw [e]))⟩ (Or.inr hne)
theorem own_mono {w : World} {B B' : Nat} {e : TypeId} {s : Nat} {v : Value} {n : Nat} {xs : List Value} (h : w.ownsRow B e s v n xs) (hB : B' ≤ B) : w.ownsRow B' e s v n xs := by
  refine ⟨h.1, ?_⟩
  rcases h.2 with h | ⟨g, cap, cur, hv, hb, r⟩
  · exact Or.inl h
  · exact Or.inr ⟨g, cap, cur, hv, by omega, r⟩
/-- Rows of unlike elements lie in unlike blocks. -/
theorem own_ne {w : World} {B B' : Nat} {e e' : TypeId} {s s' : Nat} {v v' : Value} {n n' : Nat} {xs xs' : List Value} (h : w.ownsRow B e s v n xs) (h' : w.ownsRow B' e' s' v' n' xs') (hne : e ≠ e') : v'.ownBlock = none ∨ v'.ownBlock ≠ v.ownBlock := by
  rcases h.2 with ⟨rfl, _⟩ | ⟨g, cap, cur, rfl, _, hg, _⟩
  · cases hv : v'.ownBlock <;> simp [Value.ownBlock]
  · rcases h'.2 with ⟨rfl, _⟩ | ⟨g', cap', cur', rfl, _, hg', _⟩
    · exact Or.inl rfl
    · right
      simp only [Value.ownBlock, ne_eq, Option.some.injEq]
      intro e0
      subst e0
      rw [hg] at hg'
      simp at hg'
      exact hne hg'.2
theorem own_slice {w : World} {B : Nat} {e : TypeId} {s : Nat} {v : Value} {n : Nat} {xs : List Value} (h : w.ownsRow B e s v n xs) : ∃ a cap, v = .slice a n cap := by
  rcases h.2 with ⟨hv, h0⟩ | ⟨g, cap, cur, hv, _⟩
  · exact ⟨none, 0, by rw [hv, h0]⟩
  · exact ⟨_, _, hv⟩

/-- A fact's plain part: all but where it lies. -/
def Fb.c (f : Fb) : ByteArray × List Vb := (f.n, f.vs)
/-- The fact's arguments lie in new memory, from block B on. -/
structure Fb.New (B : Nat) (w : World) (f : Fb) : Prop where
  own : w.ownsRow B 47 3 (.slice f.a f.len f.cap) f.len (flatV f.vs)
  len : f.len = f.vs.length
theorem Fb.New.In {B : Nat} {w : World} {f : Fb} (h : f.New B w) : f.In w := ⟨rowV_own h.own h.len, h.len⟩
theorem Fb.New.on {B : Nat} {w w' : World} {f : Fb} (h : f.New B w) (hb : Below w.heap.size w w') : f.New B w' := ⟨own_on h.own hb, h.len⟩
theorem Fb.New.mono {B B' : Nat} {w : World} {f : Fb} (h : f.New B w) (hB : B' ≤ B) : f.New B' w := ⟨own_mono h.own hB, h.len⟩
theorem Fb.New.nil {B : Nat} {w : World} {f : Fb} (h : f.New B w) : f.a = none → f.cap = 0 := by
  intro ha
  rcases h.own.2 with ⟨hv, _⟩ | ⟨g, cap, cur, hv, _⟩
  · simp at hv; exact hv.2.2
  · simp [ha] at hv

theorem cells_new {w : World} {b : Nat} (cs : List Value) (T : TypeId) (hb : w.heap.size = b) : ∀ (j : Nat) (u : Value), cs[j]? = some u → (w.alloc (.cells cs.toArray T)).cell? ((⟨b, 0, none⟩ : Addr).add j) = some u := by
  subst hb
  intro j u hu
  have hk : (w.alloc (.cells cs.toArray T)).heap[w.heap.size]? = some (.cells cs.toArray T) := heap_alloc_new w _
  rw [WideShapes.add_plain, Lib.cell_of_heap hk]
  simpa using hu

set_option maxHeartbeats 1000000 in
theorem growV_any (n : Nat) (w : World) (hn : n ≤ 1000) :
    Calls Try.prog 66 #[.slice none 0 0, .int .i64 n] w fun e w' => ∃ (a : Option Addr) (cap : Nat), e = .returned (.slice a 0 cap) ∧ w'.ownsRow w.heap.size 47 3 (.slice a 0 cap) 0 [] ∧ Below w.heap.size w w' := by
  obtain ⟨i0, hi, hz0, hz1, hz2⟩ := info_parts info44
  by_cases h0 : n = 0
  · subst h0
    refine (Any8.slices_Grow_room Try.growV none 0 0 0 w (Nat.le_refl _) (by omega) (by omega) (by omega)).mono ?_
    rintro e w' ⟨rfl, rfl⟩
    exact ⟨none, 0, rfl, World.ownsRow_nil _ _ _ _, Below.refl _ _⟩
  · have hg := Any8.slices_Grow_grow Try.growV i0 _ hi hz0 (by omega) none 0 0 n [] w (Nat.le_refl _) (by omega) (by rw [hz2]; omega) (by omega) (by simp) (fun _ => rfl) (by intro a h; cases h)
    refine hg.mono ?_
    rintro e w' ⟨rfl, rfl⟩
    refine ⟨_, _, rfl, ?_, (Below.refl _ _).drew.alloc (Nat.le_refl _) _⟩
    refine World.ownsRow_made w.drew _ _ (Nat.le_refl _) ?_ ?_
    · exact grownCap_le_maxLen w (0 + n) 0 47 (by unfold maxLen; omega)
    · have := grownCap_ge w n 0 (Try.growV_ren.t 25)
      simp [size_zeroCells, Value.cells]
      omega

set_option maxHeartbeats 1000000 in
theorem growF_any (n : Nat) (w : World) (hn : n ≤ 1000) :
    Calls Try.prog 51 #[.slice none 0 0, .int .i64 n] w fun e w' => ∃ (a : Option Addr) (cap : Nat), e = .returned (.slice a 0 cap) ∧ w'.ownsRow w.heap.size 25 2 (.slice a 0 cap) 0 [] ∧ Below w.heap.size w w' := by
  obtain ⟨i0, hi, hz0, hz1, hz2⟩ := info_parts infoF
  by_cases h0 : n = 0
  · subst h0
    refine (Any8.slices_Grow_room Try.growF none 0 0 0 w (Nat.le_refl _) (by omega) (by omega) (by omega)).mono ?_
    rintro e w' ⟨rfl, rfl⟩
    exact ⟨none, 0, rfl, World.ownsRow_nil _ _ _ _, Below.refl _ _⟩
  · have hg := Any8.slices_Grow_grow Try.growF i0 _ hi hz0 (by omega) none 0 0 n [] w (Nat.le_refl _) (by omega) (by rw [hz2]; omega) (by omega) (by simp) (fun _ => rfl) (by intro a h; cases h)
    refine hg.mono ?_
    rintro e w' ⟨rfl, rfl⟩
    refine ⟨_, _, rfl, ?_, (Below.refl _ _).drew.alloc (Nat.le_refl _) _⟩
    refine World.ownsRow_made w.drew _ _ (Nat.le_refl _) ?_ ?_
    · exact grownCap_le_maxLen w (0 + n) 0 25 (by unfold maxLen; omega)
    · have := grownCap_ge w n 0 (Try.growF_ren.t 25)
      simp [size_zeroCells, Value.cells]
      omega

theorem flatV_app (xs ys : List Vb) : flatV (xs ++ ys) = flatV xs ++ flatV ys := by
  induction xs with
  | nil => rfl
  | cons x r ih => simp [flatV, ih]
theorem flatF_app (xs ys : List Fb) : flatF (xs ++ ys) = flatF xs ++ flatF ys := by
  induction xs with
  | nil => rfl
  | cons x r ih => simp [flatF, ih]
theorem flatF_len (fs : List Fb) : (flatF fs).length = fs.length * 2 := by
  induction fs with
  | nil => rfl
  | cons x r ih => simp [flatF, ih]; omega

set_option maxHeartbeats 4000000 in
theorem copied_any (n : ByteArray) (a : Option Addr) (len cap : Nat) (vs : List Vb) (w : World) (hrow : RowV w a vs) (hl : len ≤ vs.length) (hl' : vs.length ≤ len) (h20 : len ≤ 20) (hn : n.size ≤ 200) (hv : ∀ v ∈ vs, v.s.size ≤ 200) :
    Calls Try.prog 52 #[.agg #[.string n, .slice a len cap]] w fun e w' => ∃ f : Fb, e = .returned (.agg #[.string f.n, .slice f.a f.len f.cap]) ∧ f.New w.heap.size w' ∧ f.n = n ∧ f.vs = vs ∧ Below w.heap.size w w' := by
  obtain ⟨i0, hi, hz0, hz1, hz2⟩ := info_parts info44
  have hby : Below w.heap.size w ((w.alloc (.cells #[.string n, .slice a len cap] 25)).alloc (.cells #[.string ⟨#[]⟩, .slice none 0 0] 25)) := ((Below.refl _ _).alloc (Nat.le_refl _) _).alloc (by simp) _
  have hs2 : ((w.alloc (.cells #[.string n, .slice a len cap] 25)).alloc (.cells #[.string ⟨#[]⟩, .slice none 0 0] 25)).heap.size = w.heap.size + 1 + 1 := by simp
  have k0 : ((w.alloc (.cells #[.string n, .slice a len cap] 25)).alloc (.cells #[.string ⟨#[]⟩, .slice none 0 0] 25)).heap[w.heap.size]? = some (.cells #[.string n, .slice a len cap] 25) :=
    (Lib.alloc_old _ _ _ (by simp)).trans (heap_alloc_new w _)
  have k1 : ((w.alloc (.cells #[.string n, .slice a len cap] 25)).alloc (.cells #[.string ⟨#[]⟩, .slice none 0 0] 25)).heap[w.heap.size + 1]? = some (.cells #[.string ⟨#[]⟩, .slice none 0 0] 25) := by
    have := heap_alloc_new (w.alloc (.cells #[.string n, .slice a len cap] 25)) (.cells #[.string ⟨#[]⟩, .slice none 0 0] 25)
    rwa [show (w.alloc (.cells #[.string n, .slice a len cap] 25)).heap.size = w.heap.size + 1 by simp] at this
  go_enter Try.func52, Try.ntmps52
  go_wp2_with fail
  refine (growV_any len _ (by omega)).mono ?_
  rintro e w1 ⟨ao, cp, rfl, hown, hb1⟩
  rw [hs2] at hown
  have j0 := (hb1.block _ (by rw [hs2]; omega)).trans k0
  have j1 := (hb1.block _ (by rw [hs2]; omega)).trans k1
  have hw1 := bt hby hb1
  have hsz : w.heap.size + 1 + 1 ≤ w1.heap.size := by have := hb1.size; omega
  clear k0 k1 hby hs2 hb1
  obtain ⟨x0, x1⟩ := pair_of j0
  go_wp2_with fail
  clear x0 x1
  go_loopw [3, 5, 13] (fun v _ i wr => ∃ (k cq : Nat) (aq : Option Addr), k ≤ len ∧ i = .int .i64 k ∧ v = .slice aq k cq ∧ wr.ownsRow (w.heap.size + 1 + 1) 47 3 (.slice aq k cq) k (flatV (vs.take k)) ∧ Below (w.heap.size + 1 + 1) w1 wr) (fun _ _ i _ => len - (intOf i).toNat)
  case atStart => exact ⟨0, cp, ao, Nat.zero_le _, rfl, rfl, by simpa [flatV] using hown, Below.refl _ _⟩
  case round =>
    obtain ⟨k, cq, aq, hk, rfl, rfl, hown', hbw⟩ := hrel
    have hB : w.heap.size + 1 + 1 ≤ wr.heap.size := by have := hbw.size; omega
    have hww : Below w.heap.size w wr := hw1.trans (hbw.mono (by omega))
    by_cases hlt : k < len
    · obtain ⟨b, o, ha, hbl, c0, c1, c2⟩ := (hrow.on hww).up (show k < vs.length by omega)
      subst ha
      have hsv := hv vs[k] (List.getElem_mem (by omega))
      have HE : Hid (flatV (vs.take (k + 1)) = flatV (vs.take k) ++ [.int .i64 vs[k].k, .int .i64 vs[k].n, .string vs[k].s]) := by
        refine hide ?_
        rw [List.take_succ_eq_append_getElem (show k < vs.length by omega), flatV_app]; rfl
      generalize vs[k] = x at c0 c1 c2 hsv HE
      have hbx := heap_alloc_new wr (.cells #[.int .i64 x.k, .int .i64 x.n, .string x.s] 47)
      go_wp2_with fail
      refine (clone_any x.s _ (by omega)).mono ?_
      rintro e w2 ⟨rfl, hb2⟩
      have hq := (hb2.block wr.heap.size (by simp)).trans hbx
      have x0 : w2.cell? ⟨wr.heap.size, 0, none⟩ = some (.int .i64 x.k) := by rw [Lib.cell_of_heap hq]; rfl
      have x1 : w2.cell? ⟨wr.heap.size, 1, none⟩ = some (.int .i64 x.n) := by rw [Lib.cell_of_heap hq]; rfl
      have x2 : w2.cell? ⟨wr.heap.size, 2, none⟩ = some (.string x.s) := by rw [Lib.cell_of_heap hq]; rfl
      have z2 : w2.frozen? ⟨wr.heap.size, 2, none⟩ = false := Lib.frozen_of_heap hq 2
      have hne : (Value.slice aq k cq).ownBlock ≠ some wr.heap.size := fun e => by have := (hown'.lt _ e).2; omega
      have hown2 := own_set (own_on (hown'.alloc (.cells #[.int .i64 x.k, .int .i64 x.n, .string x.s] 47)) hb2) ⟨wr.heap.size, 2, none⟩ (.string x.s) hne
      have hbw2 : Below (w.heap.size + 1 + 1) w1 (w2.setCell ⟨wr.heap.size, 2, none⟩ (.string x.s)) := ((hbw.alloc hB _).trans (hb2.mono (by simp; omega))).setCell (p := ⟨wr.heap.size, 2, none⟩) hB _
      have hs2 : wr.heap.size + 1 ≤ w2.heap.size := by have := hb2.size; simpa using this
      clear c0 c1 c2 hbx hq hb2 hne hbl
      go_wp2_with (at_builtin; refine wpList_append_own_wide _ rfl _ _ 23 rfl (w.heap.size + 1 + 1) 47 i0 (.agg #[.int .i64 0, .int .i64 0, .string ⟨#[]⟩]) 3 32 Try.underlying23 hi hz0 hz1 hz2 rfl (by decide) _ k (flatV (vs.take k)) rfl (hown2.alloc _) ⟨w2.heap.size, 0, none⟩ 1 1 [.int .i64 x.k, .int .i64 x.n, .string x.s] rfl rfl ?c1 ?c2 ?c3 ?c4 ?c5 ?_)
      case c1 => exact cells_new [.int .i64 x.k, .int .i64 x.n, .string x.s] 47 (by simp)
      case c2 => intro u hu; simp at hu; rcases hu with rfl | rfl | rfl <;> rfl
      case c3 => unfold maxLen; omega
      case c4 => omega
      case c5 => simp; omega
      intro v' w3 hown3 hgrow hnil
      obtain ⟨aq', cq', rfl⟩ := own_slice hown3
      have hbw3 := (hbw2.alloc (by simp; omega) (.cells #[.int .i64 x.k, .int .i64 x.n, .string x.s] 47)).grown hgrow (by simp; omega) (fun m hm => (hown2.lt m hm).1)
      clear hgrow hnil x0 x1 x2 z2 hbw2 hown2
      go_wp2_with fail
      go_roundw
      case rel => exact ⟨k + 1, cq', aq', by omega, by go_num, rfl, by rw [unhide HE]; exact hown3, hbw3⟩
      case measure => simp [intOf]; omega
    · have hkl : k = len := by omega
      subst hkl
      have g0 := (hbw.block w.heap.size (by omega)).trans j0
      have g1 := (hbw.block (w.heap.size + 1) (by omega)).trans j1
      obtain ⟨x0, x1⟩ := pair_of g0
      rw [List.take_of_length_le hl'] at hown'
      clear hlt hk
      go_wp2_with fail
      refine (clone_any n _ (by omega)).mono ?_
      rintro e w2 ⟨rfl, hb2⟩
      have q1 := (hb2.block (w.heap.size + 1) (by omega)).trans g1
      obtain ⟨y0, y1⟩ := pair_of q1
      have z0 : w2.frozen? ⟨w.heap.size + 1, 0, none⟩ = false := Lib.frozen_of_heap q1 0
      have z1 : w2.frozen? ⟨w.heap.size + 1, 1, none⟩ = false := Lib.frozen_of_heap q1 1
      have hw2 := bt hww hb2
      have hown2 := own_on hown' hb2
      clear x0 x1 g0 g1 hb2
      go_wp2_with fail
      have o1 := ownsRow_setCell_below hown2 (a := ⟨w.heap.size + 1, 0, none⟩) (by show w.heap.size + 1 < w.heap.size + 1 + 1; omega) (.string n)
      have o2 := ownsRow_setCell_below o1 (a := ⟨w.heap.size + 1, 1, none⟩) (by show w.heap.size + 1 < w.heap.size + 1 + 1; omega) (.slice aq k cq)
      refine bodyPost_ret (v := .agg #[.string n, .slice aq k cq]) (by simp [results, Try.results52, go_sem, y0, y1]) rfl ?_
      refine ⟨⟨n, aq, k, cq, vs⟩, rfl, ⟨own_mono o2 (by omega), by show k = vs.length; omega⟩, rfl, rfl, ?_⟩
      exact (hw2.setCell (p := ⟨w.heap.size + 1, 0, none⟩) (by show w.heap.size ≤ w.heap.size + 1; omega) _).setCell (p := ⟨w.heap.size + 1, 1, none⟩) (by show w.heap.size ≤ w.heap.size + 1; omega) _

theorem copied_fb (f : Fb) (w : World) (hf : f.In w) (lf : f.Light) :
    Calls Try.prog 52 #[.agg #[.string f.n, .slice f.a f.len f.cap]] w fun e w' => ∃ g : Fb, e = .returned (.agg #[.string g.n, .slice g.a g.len g.cap]) ∧ g.New w.heap.size w' ∧ g.c = f.c ∧ Below w.heap.size w w' := by
  refine (copied_any f.n f.a f.len f.cap f.vs w hf.row (by rw [hf.len]; omega) (by rw [hf.len]; omega) lf.len lf.n lf.vs).mono ?_
  rintro e w' ⟨g, rfl, hn, h1, h2, hb⟩
  exact ⟨g, rfl, hn, by simp [Fb.c, h1, h2], hb⟩
end Go.Proofs.Ytmnonjacomabbaa

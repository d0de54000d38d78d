/- The walk of constablelaw12.FormulaBent: it answers true, whatever the atom and the way. -/
import Derived.Test.YtcjnhhbcleljmaaGreatDoorFpZa
import Derived.Test.YtcjnhhbcleljmaaGreatDoorForZa
import Derived.Test.YtcjnhhbcleljmaaGreatDoorRuZa
namespace Go.Proofs.YtcjnhhbcleljmaaGreatDoor.Sb
open Go.RowKit
open V

/-- An atom's box. -/
structure BA (W : World) (b : Nat) (n : ByteArray) (a : Option Addr) (m mc : Nat) : Prop where
  c0 : W.cell? ⟨b, 0, none⟩ = some (.string n)
  c1 : W.cell? ⟨b, 1, none⟩ = some (.slice a m mc)
theorem ba_of {W : World} {b : Nat} {n : ByteArray} {a : Option Addr} {m mc : Nat} (h : W.heap[b]? = some (.cells #[.string n, .slice a m mc] 46)) : BA W b n a m mc := by
  refine ⟨?_, ?_⟩ <;> (rw [Lib.cell_of_heap h]; rfl)
theorem BA.on {W w1 : World} {b : Nat} {n : ByteArray} {a : Option Addr} {m mc : Nat} (T : BA W b n a m mc) (hb : Below W.heap.size W w1) : BA w1 b n a m mc := ⟨cell_on hb T.c0, cell_on hb T.c1⟩
/-- A row of nodes, written out, lies there. -/
theorem lies_lit {w : World} {b n : Nat} {zs : List Nz} {cells : Array Value} (h : w.heap[b]? = some (.cells cells 72 (0, 0))) (hc : cells.toList = flatNs zs) (hn : zs.length = n) (hz : ∀ z ∈ zs, z.In w) : LiesN w (some ⟨b, 0, none⟩) n n zs := by
  refine ⟨Or.inr ⟨b, 0, rfl, (Array.getElem?_eq_some_iff.1 h).1, fun i z hz => ?_⟩, by omega, by omega, (fun h => by cases h), Nat.le_refl _, hz⟩
  have key : ∀ j (u : Value), j < 5 → (flatN z)[j]? = some u → w.cell? ⟨b, 0 + i * 5 + j, none⟩ = some u := by
    intro j u hj hu
    rw [← flatNs_get zs i z hz j hj, ← hc, Array.getElem?_toList] at hu
    rw [Lib.cell_of_heap h, Nat.zero_add]
    exact hu
  exact ⟨key 0 _ (by omega) rfl, key 1 _ (by omega) rfl, key 2 _ (by omega) rfl, key 3 _ (by omega) rfl, key 4 _ (by omega) rfl⟩
theorem rem10 (h : Int) : (IntKind.u64.wrap h).tmod 10 = 0 ∨ (IntKind.u64.wrap h).tmod 10 = 1 ∨ (IntKind.u64.wrap h).tmod 10 = 2 ∨ (IntKind.u64.wrap h).tmod 10 = 3 ∨ (IntKind.u64.wrap h).tmod 10 = 4 ∨ (IntKind.u64.wrap h).tmod 10 = 5 ∨ (IntKind.u64.wrap h).tmod 10 = 6 ∨ (IntKind.u64.wrap h).tmod 10 = 7 ∨ (IntKind.u64.wrap h).tmod 10 = 8 ∨ (IntKind.u64.wrap h).tmod 10 = 9 := by
  have h0 : 0 ≤ IntKind.u64.wrap h := by simp [IntKind.wrap, IntKind.bits, IntKind.signed]; omega
  generalize IntKind.u64.wrap h = m at h0
  rw [Int.tmod_eq_emod_of_nonneg h0]
  omega
/-- A node with an atom; one without. -/
abbrev isZ (k : Int) (n : ByteArray) (a : Option Addr) (m mc : Nat) (ts : List Bb) (A : Int) : Nz := ⟨k, n, a, m, mc, ts, A, 0⟩
abbrev noZ (k A B : Int) : Nz := ⟨k, ⟨#[]⟩, none, 0, 0, [], A, B⟩
/-- Blocks, one laid behind the other. -/
def chain : World → List Obj → World
  | w, [] => w
  | w, o :: r => chain (w.alloc o) r
theorem chain_below : ∀ (os : List Obj) (w : World), Below w.heap.size w (chain w os)
  | [], _ => Below.refl _ _
  | o :: r, w => bt (below_new w o) (chain_below r (w.alloc o))
theorem chain_at : ∀ (os : List Obj) (w : World) (k : Nat) (o : Obj), os[k]? = some o → (chain w os).heap[w.heap.size + k]? = some o
  | [], w, k, o, h => by simp at h
  | x :: r, w, 0, o, h => by
    simp only [List.getElem?_cons_zero, Option.some.injEq] at h
    subst h
    exact ((chain_below r (w.alloc x)).block w.heap.size (by simp)).trans (heap_alloc_new w x)
  | x :: r, w, k + 1, o, h => by
    rw [List.getElem?_cons_succ] at h
    have := chain_at r (w.alloc x) k o h
    rw [show (w.alloc x).heap.size = w.heap.size + 1 by simp] at this
    rw [show w.heap.size + (k + 1) = w.heap.size + 1 + k by omega]
    exact this
/-- A row of nodes, written out. -/
abbrev litN (zs : List Nz) : Obj := .cells (flatNs zs).toArray 72
theorem lit_chain {w : World} {os : List Obj} {k n : Nat} {zs : List Nz} (h : os[k]? = some (litN zs)) (hn : zs.length = n) (hz : ∀ z ∈ zs, z.In w) : LiesN (chain w os) (some ⟨w.heap.size + k, 0, none⟩) n n zs :=
  lies_lit (chain_at os w k _ h) (by simp) hn (fun z hm => (hz z hm).on (chain_below os w))
theorem from_bad (a : Option Addr) (n c : Nat) (zs : List Nz) (i : Int) (w : World) (hA : LiesN w a n c zs) (hL : ∀ z ∈ zs, z.Light) (hn : n ≤ 20000) (hr : rightFm (zs.map Nz.pl) = false) :
    Calls Tryz.prog 33 #[.slice a n c, .int .i64 i] w fun e w' => e = .returned (.int .i64 (-1)) ∧ Below w.heap.size w w' := by
  refine (from_any a n c zs i w hA hL hn).mono ?_
  rintro e w' ⟨⟨j, rfl, hj⟩, hb⟩
  refine ⟨?_, hb⟩
  rcases hj with ⟨_, rfl⟩ | ⟨T, k, t, h, _⟩
  · rfl
  · rw [hr] at h; cases h
def bentSl (s : Nat) : List Value := [.slice (some ⟨s, 0, none⟩) 2 2, .slice (some ⟨s + 1, 0, none⟩) 2 2, .slice (some ⟨s + 1 + 1, 0, none⟩) 2 2, .slice (some ⟨s + 1 + 1 + 1, 0, none⟩) 3 3, .slice (some ⟨s + 1 + 1 + 1 + 1, 0, none⟩) 2 2, .slice (some ⟨s + 1 + 1 + 1 + 1 + 1, 0, none⟩) 2 2, .slice (some ⟨s + 1 + 1 + 1 + 1 + 1 + 1, 0, none⟩) 3 3, .slice (some ⟨s + 1 + 1 + 1 + 1 + 1 + 1 + 1, 0, none⟩) 2 2, .slice (some ⟨s + 1 + 1 + 1 + 1 + 1 + 1 + 1 + 1, 0, none⟩) 1 1, .slice (some ⟨s + 1 + 1 + 1 + 1 + 1 + 1 + 1 + 1 + 1, 0, none⟩) 4 4]
def bentOs (n : ByteArray) (a : Option Addr) (m mc : Nat) (ts : List Bb) (s : Nat) : List Obj := [litN [isZ 1 n a m mc ts 0, isZ 1 n a m mc ts 0], litN [isZ 1 n a m mc ts 0, noZ 3 0 0], litN [noZ 2 1 0, isZ 1 n a m mc ts 0], litN [isZ 1 n a m mc ts 0, isZ 1 n a m mc ts 0, noZ 3 1 0], litN [isZ 1 n a m mc ts 0, isZ 2 n a m mc ts 0], litN [isZ 1 n a m mc ts 0, noZ 2 0 1], litN [isZ 1 n a m mc ts 0, isZ 1 n a m mc ts 0, noZ 6 1 0], litN [isZ 1 n a m mc ts 0, noZ 9 0 0], litN [isZ 1 n a m mc ts 1], litN [isZ 1 n a m mc ts 0, isZ 1 n a m mc ts 0, isZ 1 n a m mc ts 0, noZ 4 0 2], .cells (bentSl s).toArray 43]
/-- Each of the ten lists: it lies there, it is no formula. -/
theorem bent_meet {n : ByteArray} {a : Option Addr} {m mc : Nat} {ts : List Bb} {W : World} (hx : V.rightA (n.data.toList, ts) = true) (hi : Lies W a m mc ts) (hL : (∀ A k : Int, (isZ k n a m mc ts A).Light) ∧ (∀ k A B : Int, (noZ k A B).Light)) (K : Nat) (hK : K < 10) :
    ∃ (g l : Nat) (zs : List Nz), (bentSl W.heap.size)[K]? = some (.slice (some ⟨g, 0, none⟩) l l) ∧ Hid (LiesN (chain W (bentOs n a m mc ts W.heap.size)) (some ⟨g, 0, none⟩) l l zs) ∧ Hid (rightFm (zs.map Nz.pl) = false) ∧ Hid (∀ z ∈ zs, z.Light) ∧ l ≤ 20 := by
  have hn : ∀ k A B : Int, (noZ k A B).In W := fun _ _ _ => lies_none W
  match K, hK with
  | 0, _ => exact ⟨W.heap.size + 0, 2, [isZ 1 n a m mc ts 0, isZ 1 n a m mc ts 0], rfl, hide (lit_chain (os := bentOs n a m mc ts W.heap.size) (k := 0) rfl rfl (by repeat' (first | exact hi | exact hn _ _ _ | exact List.forall_mem_nil _ | refine List.forall_mem_cons.2 ⟨?_, ?_⟩))), hide (bad_0 hx), hide (by repeat' (first | exact hL.1 _ _ | exact hL.2 _ _ _ | exact List.forall_mem_nil _ | refine List.forall_mem_cons.2 ⟨?_, ?_⟩)), by decide⟩
  | 1, _ => exact ⟨W.heap.size + 1, 2, [isZ 1 n a m mc ts 0, noZ 3 0 0], rfl, hide (lit_chain (os := bentOs n a m mc ts W.heap.size) (k := 1) rfl rfl (by repeat' (first | exact hi | exact hn _ _ _ | exact List.forall_mem_nil _ | refine List.forall_mem_cons.2 ⟨?_, ?_⟩))), hide (bad_1 hx), hide (by repeat' (first | exact hL.1 _ _ | exact hL.2 _ _ _ | exact List.forall_mem_nil _ | refine List.forall_mem_cons.2 ⟨?_, ?_⟩)), by decide⟩
  | 2, _ => exact ⟨W.heap.size + 2, 2, [noZ 2 1 0, isZ 1 n a m mc ts 0], rfl, hide (lit_chain (os := bentOs n a m mc ts W.heap.size) (k := 2) rfl rfl (by repeat' (first | exact hi | exact hn _ _ _ | exact List.forall_mem_nil _ | refine List.forall_mem_cons.2 ⟨?_, ?_⟩))), hide (bad_2), hide (by repeat' (first | exact hL.1 _ _ | exact hL.2 _ _ _ | exact List.forall_mem_nil _ | refine List.forall_mem_cons.2 ⟨?_, ?_⟩)), by decide⟩
  | 3, _ => exact ⟨W.heap.size + 3, 3, [isZ 1 n a m mc ts 0, isZ 1 n a m mc ts 0, noZ 3 1 0], rfl, hide (lit_chain (os := bentOs n a m mc ts W.heap.size) (k := 3) rfl rfl (by repeat' (first | exact hi | exact hn _ _ _ | exact List.forall_mem_nil _ | refine List.forall_mem_cons.2 ⟨?_, ?_⟩))), hide (bad_3 hx), hide (by repeat' (first | exact hL.1 _ _ | exact hL.2 _ _ _ | exact List.forall_mem_nil _ | refine List.forall_mem_cons.2 ⟨?_, ?_⟩)), by decide⟩
  | 4, _ => exact ⟨W.heap.size + 4, 2, [isZ 1 n a m mc ts 0, isZ 2 n a m mc ts 0], rfl, hide (lit_chain (os := bentOs n a m mc ts W.heap.size) (k := 4) rfl rfl (by repeat' (first | exact hi | exact hn _ _ _ | exact List.forall_mem_nil _ | refine List.forall_mem_cons.2 ⟨?_, ?_⟩))), hide (bad_4 hx), hide (by repeat' (first | exact hL.1 _ _ | exact hL.2 _ _ _ | exact List.forall_mem_nil _ | refine List.forall_mem_cons.2 ⟨?_, ?_⟩)), by decide⟩
  | 5, _ => exact ⟨W.heap.size + 5, 2, [isZ 1 n a m mc ts 0, noZ 2 0 1], rfl, hide (lit_chain (os := bentOs n a m mc ts W.heap.size) (k := 5) rfl rfl (by repeat' (first | exact hi | exact hn _ _ _ | exact List.forall_mem_nil _ | refine List.forall_mem_cons.2 ⟨?_, ?_⟩))), hide (bad_5 hx), hide (by repeat' (first | exact hL.1 _ _ | exact hL.2 _ _ _ | exact List.forall_mem_nil _ | refine List.forall_mem_cons.2 ⟨?_, ?_⟩)), by decide⟩
  | 6, _ => exact ⟨W.heap.size + 6, 3, [isZ 1 n a m mc ts 0, isZ 1 n a m mc ts 0, noZ 6 1 0], rfl, hide (lit_chain (os := bentOs n a m mc ts W.heap.size) (k := 6) rfl rfl (by repeat' (first | exact hi | exact hn _ _ _ | exact List.forall_mem_nil _ | refine List.forall_mem_cons.2 ⟨?_, ?_⟩))), hide (bad_6 hx), hide (by repeat' (first | exact hL.1 _ _ | exact hL.2 _ _ _ | exact List.forall_mem_nil _ | refine List.forall_mem_cons.2 ⟨?_, ?_⟩)), by decide⟩
  | 7, _ => exact ⟨W.heap.size + 7, 2, [isZ 1 n a m mc ts 0, noZ 9 0 0], rfl, hide (lit_chain (os := bentOs n a m mc ts W.heap.size) (k := 7) rfl rfl (by repeat' (first | exact hi | exact hn _ _ _ | exact List.forall_mem_nil _ | refine List.forall_mem_cons.2 ⟨?_, ?_⟩))), hide (bad_7 hx), hide (by repeat' (first | exact hL.1 _ _ | exact hL.2 _ _ _ | exact List.forall_mem_nil _ | refine List.forall_mem_cons.2 ⟨?_, ?_⟩)), by decide⟩
  | 8, _ => exact ⟨W.heap.size + 8, 1, [isZ 1 n a m mc ts 1], rfl, hide (lit_chain (os := bentOs n a m mc ts W.heap.size) (k := 8) rfl rfl (by repeat' (first | exact hi | exact hn _ _ _ | exact List.forall_mem_nil _ | refine List.forall_mem_cons.2 ⟨?_, ?_⟩))), hide (bad_8 hx), hide (by repeat' (first | exact hL.1 _ _ | exact hL.2 _ _ _ | exact List.forall_mem_nil _ | refine List.forall_mem_cons.2 ⟨?_, ?_⟩)), by decide⟩
  | 9, _ => exact ⟨W.heap.size + 9, 4, [isZ 1 n a m mc ts 0, isZ 1 n a m mc ts 0, isZ 1 n a m mc ts 0, noZ 4 0 2], rfl, hide (lit_chain (os := bentOs n a m mc ts W.heap.size) (k := 9) rfl rfl (by repeat' (first | exact hi | exact hn _ _ _ | exact List.forall_mem_nil _ | refine List.forall_mem_cons.2 ⟨?_, ?_⟩))), hide (bad_9 hx), hide (by repeat' (first | exact hL.1 _ _ | exact hL.2 _ _ _ | exact List.forall_mem_nil _ | refine List.forall_mem_cons.2 ⟨?_, ?_⟩)), by decide⟩
set_option maxHeartbeats 16000000 in
set_option maxRecDepth 100000 in
theorem fbent_law (n : ByteArray) (a : Option Addr) (m mc : Nat) (ts : List Bb) (h : Int) (w : World) (he : Env w) (hw : Wd w) (hi : Lies w a m mc ts) :
    Calls Tryz.prog 7 #[.int .i64 h, .agg #[.string n, .slice a m mc]] w fun e w' => e = .returned (.bool true) ∧ Below w.heap.size w w' := by
  have hb0 := below_new w (.cells #[.string n, .slice a m mc] 46)
  have T0 : BA (w.alloc (.cells #[.string n, .slice a m mc] 46)) w.heap.size n a m mc := ba_of (heap_alloc_new w (.cells #[.string n, .slice a m mc] 46))
  have hi0 := hi.on hb0
  obtain ⟨c0, c1⟩ := T0
  go_enter Tryz.func7, Tryz.ntmps7
  go_wp2_with fail
  have T0 := BA.mk c0 c1
  clear c0 c1
  generalize w.alloc (.cells #[.string n, .slice a m mc] 46) = W0 at hb0 T0 hi0 ⊢
  refine (aheavy_any n a m mc ts W0 hi0).mono ?_
  rintro e w1 ⟨rfl | ⟨rfl, hn, hm, hv⟩, hb1⟩
  · go_wp2_with fail
    go_ret
    exact ⟨rfl, bt hb0 hb1⟩
  have T1 := T0.on hb1
  have hi1 := hi0.on hb1
  have hw1 := bt hb0 hb1
  clear T0 hi0 hb0 hb1
  obtain ⟨q, hq⟩ : ∃ q, V.rightA (n.data.toList, ts) = q := ⟨_, rfl⟩
  have F := hide (refAtom_x n a m mc ts q w1 hn hv hi1 hm (hide (by rw [right_same]; exact hq)))
  obtain ⟨c0, c1⟩ := T1
  go_wp2_with fail
  have T1 := BA.mk c0 c1
  clear c0 c1
  refine (unhide F).mono ?_
  rintro e w2 ⟨rfl, hb2⟩
  have T2 := T1.on hb2
  have hi2 := hi1.on hb2
  have hw2 := bt hw1 hb2
  clear T1 hi1 hw1 hb2 F
  cases q with
  | false =>
    go_wp2_with fail
    go_ret
    exact ⟨rfl, hw2⟩
  | true =>
  have HQ := hide hq
  have hk10 := rem10 h
  have hb3 := below_new w2 (.cells #[.int .i64 1, .string n, .slice a m mc, .int .i64 0, .int .i64 0] 72)
  have I3 : BN (w2.alloc (.cells #[.int .i64 1, .string n, .slice a m mc, .int .i64 0, .int .i64 0] 72)) w2.heap.size (isZ 1 n a m mc ts 0) := bn_of (heap_alloc_new w2 (.cells #[.int .i64 1, .string n, .slice a m mc, .int .i64 0, .int .i64 0] 72))
  have hs3 : (w2.alloc (.cells #[.int .i64 1, .string n, .slice a m mc, .int .i64 0, .int .i64 0] 72)).heap.size = w2.heap.size + 1 := by simp
  have hb4 := below_new (w2.alloc (.cells #[.int .i64 1, .string n, .slice a m mc, .int .i64 0, .int .i64 0] 72)) (.cells #[.int .i64 1, .string n, .slice a m mc, .int .i64 0, .int .i64 0, .int .i64 2, .string ⟨#[]⟩, .slice none 0 0, .int .i64 0, .int .i64 0, .int .i64 1, .string n, .slice a m mc, .int .i64 0, .int .i64 0, .int .i64 8, .string ⟨#[]⟩, .slice none 0 0, .int .i64 1, .int .i64 2] 72)
  have g4 := heap_alloc_new (w2.alloc (.cells #[.int .i64 1, .string n, .slice a m mc, .int .i64 0, .int .i64 0] 72)) (.cells #[.int .i64 1, .string n, .slice a m mc, .int .i64 0, .int .i64 0, .int .i64 2, .string ⟨#[]⟩, .slice none 0 0, .int .i64 0, .int .i64 0, .int .i64 1, .string n, .slice a m mc, .int .i64 0, .int .i64 0, .int .i64 8, .string ⟨#[]⟩, .slice none 0 0, .int .i64 1, .int .i64 2] 72)
  rw [hs3] at g4
  have hi4 := (hi2.on hb3).on hb4
  have HG := hide (lies_lit (n := 4) (zs := [isZ 1 n a m mc ts 0, noZ 2 0 0, isZ 1 n a m mc ts 0, noZ 8 1 2]) g4 rfl rfl (by
    intro z hz
    simp only [List.mem_cons, List.not_mem_nil, or_false] at hz
    rcases hz with rfl | rfl | rfl | rfl
    · exact hi4
    · exact lies_none _
    · exact hi4
    · exact lies_none _))
  have I4 := I3.on hb4
  have A4 := (T2.on hb3).on hb4
  have hw4 := bt hw2 (bt hb3 hb4)
  obtain ⟨c0, c1⟩ := T2
  clear hq hb3 hb4 g4 I3 hs3
  go_upto_region 5 with fail
  generalize (w2.alloc (.cells #[.int .i64 1, .string n, .slice a m mc, .int .i64 0, .int .i64 0] 72)).alloc (.cells #[.int .i64 1, .string n, .slice a m mc, .int .i64 0, .int .i64 0, .int .i64 2, .string ⟨#[]⟩, .slice none 0 0, .int .i64 0, .int .i64 0, .int .i64 1, .string n, .slice a m mc, .int .i64 0, .int .i64 0, .int .i64 8, .string ⟨#[]⟩, .slice none 0 0, .int .i64 1, .int .i64 2] 72) = W4 at HG I4 A4 hw4 hi4 ⊢
  clear c0 c1 hi2 hw2
  generalize w2.heap.size = ib at HG I4 ⊢
  have HL : Hid ((∀ A k : Int, (isZ k n a m mc ts A).Light) ∧ (∀ k A B : Int, (noZ k A B).Light)) := hide ⟨fun A k => ⟨hn, hm, hv⟩, fun k A B => ⟨Nat.zero_le _, Nat.zero_le _, fun t h => by cases h⟩⟩
  obtain ⟨c0, c1⟩ := A4
  obtain ⟨d0, d1, d2, d3, d4⟩ := I4
  simp only at d0 d1 d2 d3 d4
  have l0 := cell_lt c0
  have l1 := cell_lt d0
  have l01 : w.heap.size < W4.heap.size + 1 := Nat.lt_of_lt_of_le l0 (Nat.le_add_right _ _)
  have l11 : ib < W4.heap.size + 1 := Nat.lt_of_lt_of_le l1 (Nat.le_add_right _ _)
  have l02 : w.heap.size < W4.heap.size + 2 := Nat.lt_of_lt_of_le l0 (Nat.le_add_right _ _)
  have l12 : ib < W4.heap.size + 2 := Nat.lt_of_lt_of_le l1 (Nat.le_add_right _ _)
  have m02 : w.heap.size < W4.heap.size + 1 + 1 := by omega
  have m12 : ib < W4.heap.size + 1 + 1 := by omega
  have l03 : w.heap.size < W4.heap.size + 3 := Nat.lt_of_lt_of_le l0 (Nat.le_add_right _ _)
  have l13 : ib < W4.heap.size + 3 := Nat.lt_of_lt_of_le l1 (Nat.le_add_right _ _)
  have m03 : w.heap.size < W4.heap.size + 1 + 1 + 1 := by omega
  have m13 : ib < W4.heap.size + 1 + 1 + 1 := by omega
  have l04 : w.heap.size < W4.heap.size + 4 := Nat.lt_of_lt_of_le l0 (Nat.le_add_right _ _)
  have l14 : ib < W4.heap.size + 4 := Nat.lt_of_lt_of_le l1 (Nat.le_add_right _ _)
  have m04 : w.heap.size < W4.heap.size + 1 + 1 + 1 + 1 := by omega
  have m14 : ib < W4.heap.size + 1 + 1 + 1 + 1 := by omega
  have l05 : w.heap.size < W4.heap.size + 5 := Nat.lt_of_lt_of_le l0 (Nat.le_add_right _ _)
  have l15 : ib < W4.heap.size + 5 := Nat.lt_of_lt_of_le l1 (Nat.le_add_right _ _)
  have m05 : w.heap.size < W4.heap.size + 1 + 1 + 1 + 1 + 1 := by omega
  have m15 : ib < W4.heap.size + 1 + 1 + 1 + 1 + 1 := by omega
  have l06 : w.heap.size < W4.heap.size + 6 := Nat.lt_of_lt_of_le l0 (Nat.le_add_right _ _)
  have l16 : ib < W4.heap.size + 6 := Nat.lt_of_lt_of_le l1 (Nat.le_add_right _ _)
  have m06 : w.heap.size < W4.heap.size + 1 + 1 + 1 + 1 + 1 + 1 := by omega
  have m16 : ib < W4.heap.size + 1 + 1 + 1 + 1 + 1 + 1 := by omega
  have l07 : w.heap.size < W4.heap.size + 7 := Nat.lt_of_lt_of_le l0 (Nat.le_add_right _ _)
  have l17 : ib < W4.heap.size + 7 := Nat.lt_of_lt_of_le l1 (Nat.le_add_right _ _)
  have m07 : w.heap.size < W4.heap.size + 1 + 1 + 1 + 1 + 1 + 1 + 1 := by omega
  have m17 : ib < W4.heap.size + 1 + 1 + 1 + 1 + 1 + 1 + 1 := by omega
  have l08 : w.heap.size < W4.heap.size + 8 := Nat.lt_of_lt_of_le l0 (Nat.le_add_right _ _)
  have l18 : ib < W4.heap.size + 8 := Nat.lt_of_lt_of_le l1 (Nat.le_add_right _ _)
  have m08 : w.heap.size < W4.heap.size + 1 + 1 + 1 + 1 + 1 + 1 + 1 + 1 := by omega
  have m18 : ib < W4.heap.size + 1 + 1 + 1 + 1 + 1 + 1 + 1 + 1 := by omega
  have l09 : w.heap.size < W4.heap.size + 9 := Nat.lt_of_lt_of_le l0 (Nat.le_add_right _ _)
  have l19 : ib < W4.heap.size + 9 := Nat.lt_of_lt_of_le l1 (Nat.le_add_right _ _)
  have m09 : w.heap.size < W4.heap.size + 1 + 1 + 1 + 1 + 1 + 1 + 1 + 1 + 1 := by omega
  have m19 : ib < W4.heap.size + 1 + 1 + 1 + 1 + 1 + 1 + 1 + 1 + 1 := by omega
  have l010 : w.heap.size < W4.heap.size + 10 := Nat.lt_of_lt_of_le l0 (Nat.le_add_right _ _)
  have l110 : ib < W4.heap.size + 10 := Nat.lt_of_lt_of_le l1 (Nat.le_add_right _ _)
  have m010 : w.heap.size < W4.heap.size + 1 + 1 + 1 + 1 + 1 + 1 + 1 + 1 + 1 + 1 := by omega
  have m110 : ib < W4.heap.size + 1 + 1 + 1 + 1 + 1 + 1 + 1 + 1 + 1 + 1 := by omega
  have l011 : w.heap.size < W4.heap.size + 11 := Nat.lt_of_lt_of_le l0 (Nat.le_add_right _ _)
  have l111 : ib < W4.heap.size + 11 := Nat.lt_of_lt_of_le l1 (Nat.le_add_right _ _)
  have m011 : w.heap.size < W4.heap.size + 1 + 1 + 1 + 1 + 1 + 1 + 1 + 1 + 1 + 1 + 1 := by omega
  have m111 : ib < W4.heap.size + 1 + 1 + 1 + 1 + 1 + 1 + 1 + 1 + 1 + 1 + 1 := by omega
  go_cut [7] from 8 (fun v wx => ∃ (g l : Nat) (zs : List Nz), v = .slice (some ⟨g, 0, none⟩) l l ∧ Hid (LiesN wx (some ⟨g, 0, none⟩) l l zs) ∧ Hid (rightFm (zs.map Nz.pl) = false) ∧ Hid (∀ z ∈ zs, z.Light) ∧ l ≤ 20 ∧ Hid (LiesN wx (some ⟨ib + 1, 0, none⟩) 4 4 [isZ 1 n a m mc ts 0, noZ 2 0 0, isZ 1 n a m mc ts 0, noZ 8 1 2]) ∧ Below w.heap.size w wx)
  case first =>
    have hK : (wrap64 ((IntKind.u64.wrap h).tmod 10)).toNat < 10 := by
      rcases hk10 with e | e | e | e | e | e | e | e | e | e <;> (rw [e]; simp [wrap64])
    have i0 : (0 : Int) ≤ wrap64 ((IntKind.u64.wrap h).tmod 10) := by
      rcases hk10 with e | e | e | e | e | e | e | e | e | e <;> (rw [e]; simp [wrap64])
    have i1 : wrap64 ((IntKind.u64.wrap h).tmod 10) < 10 := by
      rcases hk10 with e | e | e | e | e | e | e | e | e | e <;> (rw [e]; simp [wrap64])
    obtain ⟨g, l, zs, e1, e2, e3, e4, e5⟩ := bent_meet (W := W4) (unhide HQ) hi4 (unhide HL) _ hK
    have hbc := chain_below (bentOs n a m mc ts W4.heap.size) W4
    have HG5 := hide ((unhide HG).on hbc)
    have hw5 := bt hw4 hbc
    have HE := hide (And.intro (List.getElem?_eq_some_iff.1 e1).2 (And.intro HG5 hw5))
    clear hbc HG5 hw5 hk10
    go_wp2_with fail
    go_meet
    exact ⟨g, l, zs, (unhide HE).1, e2, e3, e4, e5, (unhide HE).2.1, (unhide HE).2.2⟩
  case rest =>
    obtain ⟨g, l, zs, rfl, HZ, HW, HLt, hl20, HG2, hw5⟩ := hcut
    have HGL : Hid (∀ z ∈ [isZ 1 n a m mc ts 0, noZ 2 0 0, isZ 1 n a m mc ts 0, noZ 8 1 2], z.Light) := hide (by
      have hL := unhide HL
      repeat' (first | exact hL.1 _ _ | exact hL.2 _ _ _ | exact List.forall_mem_nil _ | refine List.forall_mem_cons.2 ⟨?_, ?_⟩))
    have hgd : rightFm ([isZ 1 n a m mc ts 0, noZ 2 0 0, isZ 1 n a m mc ts 0, noZ 8 1 2].map Nz.pl) = true := good_right (unhide HQ)
    obtain ⟨T, d, hT, hTd⟩ := last_from hgd
    generalize [isZ 1 n a m mc ts 0, noZ 2 0 0, isZ 1 n a m mc ts 0, noZ 8 1 2] = gs at HGL hgd hT hTd HG2
    have F1 := hide (ftext_u (some ⟨g, 0, none⟩) l l zs wc (he.on hw5) (hw.on hw5) (unhide HZ) (unhide HLt) (by omega))
    have FA := hide (fun W (hb : Below wc.heap.size wc W) => fcheck_any (some ⟨ib + 1, 0, none⟩) 4 4 gs 0 W ((unhide HG2).on hb) (unhide HGL) (by decide) (hide (by rw [hgd]; rfl)))
    have FB := hide (fun W (hb : Below wc.heap.size wc W) => fcheck_any (some ⟨g, 0, none⟩) l l zs 17 W ((unhide HZ).on hb) (unhide HLt) (by omega) (hide (by rw [unhide HW]; rfl)))
    have FC := hide (fun W (hb : Below wc.heap.size wc W) => from_bad (some ⟨g, 0, none⟩) l l zs 0 W ((unhide HZ).on hb) (unhide HLt) (by omega) (unhide HW))
    have FD := hide (fun W (hb : Below wc.heap.size wc W) => from_told (some ⟨ib + 1, 0, none⟩) 4 4 gs T 3 (0, d) W ((unhide HG2).on hb) hgd hT (by have := (unhide HG2).le; rw [List.length_map]; omega) (by
      have h1 := (unhide HG2).le
      have h2 := (unhide HG2).ge
      rw [List.length_map, show gs.length - 1 = 3 by omega] at hTd
      exact hTd))
    have HW2 := hide (unhide HW)
    clear HG hw4 hi4 c0 c1 d0 d1 d2 d3 d4 hgd hT hTd HGL HG2 HZ HLt hk10
    go_wp2_with fail
    refine (unhide F1).mono ?_
    rintro e w6 ⟨⟨s, c, rfl, -, HS⟩, hb6⟩
    obtain ⟨rfl, rfl⟩ : c = 17 ∧ s = ⟨#[]⟩ := by
      have h := unhide HS
      rw [unhide HW2] at h
      rcases h with ⟨_, h1, _⟩ | ⟨_, h2, ⟨_, h3⟩ | ⟨h1, _⟩⟩
      · cases h1
      · exact ⟨h3, h2⟩
      · cases h1
    have FA' := hide (unhide FA w6 hb6)
    clear F1 FA HS
    go_wp2_with fail
    refine (unhide FA').mono ?_
    rintro e w7 ⟨rfl, hb7⟩
    have hb7' := bt hb6 hb7
    have FB' := hide (unhide FB w7 hb7')
    clear FA' FB hb6 hb7
    go_wp2_with fail
    refine (unhide FB').mono ?_
    rintro e w8 ⟨rfl, hb8⟩
    have hb8' := bt hb7' hb8
    have FC' := hide (unhide FC w8 hb8')
    clear FB' FC hb7' hb8
    go_wp2_with fail
    refine (unhide FC').mono ?_
    rintro e w9 ⟨rfl, hb9⟩
    have hb9' := bt hb8' hb9
    have FD' := hide (unhide FD w9 hb9')
    clear FC' FD hb8' hb9
    go_wp2_with fail
    refine (unhide FD').mono ?_
    rintro e w10 ⟨rfl, hb10⟩
    have hw10 := bt hw5 (bt hb9' hb10)
    clear FD' hb9' hb10
    go_wp2_with fail
    refine (fwakes_any w10 (he.on hw10) (hw.on hw10)).mono ?_
    rintro e w11 ⟨rfl, hb11⟩
    go_wp2_with fail
    go_ret
    exact ⟨rfl, bt hw10 hb11⟩
end Go.Proofs.YtcjnhhbcleljmaaGreatDoor.Sb

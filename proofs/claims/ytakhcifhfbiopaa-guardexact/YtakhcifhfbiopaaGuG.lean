/- What constablekeep.TwinConds answers of a list of one. -/
import Derived.Test.YtakhcifhfbiopaaGuF
import Derived.Deep.DeepCutAuto
namespace Go.Proofs.Ytakhcifhfbiopaa.Sb
open Go.RowKit
open V
open Ex (RowO LiesO flatO liesO_own)

theorem infoC : (Try.prog.info? 29).map (fun i => (i.zero, i.size, i.bytes)) = some (some (.agg #[.int .i64 0, .string ⟨#[]⟩, .slice none 0 0, .int .i64 0, .slice none 0 0, .slice none 0 0]), 6, 104) := by kernel_rfl

theorem lies_ownE {w : World} {B n cp : Nat} {e : TypeId} {ao : Option Addr} {xs : List Bb} (h : w.ownsRow B e 4 (.slice ao n cp) n (flatB xs)) : Lies w ao n cp xs := by
  have hn : n = xs.length := by have := h.1; rw [flatB_len] at this; omega
  rcases h.2 with ⟨hv, h0⟩ | ⟨g, cap, cur, hv, _, hg, hc, _, _, ht⟩
  · simp only [Value.slice.injEq] at hv
    exact ⟨Or.inl (List.eq_nil_of_length_eq_zero (by omega)), hn, fun _ => hv.2.2, by omega⟩
  · simp only [Value.slice.injEq] at hv
    obtain ⟨rfl, _, rfl⟩ := hv
    refine ⟨Or.inr ⟨g, 0, rfl, (Array.getElem?_eq_some_iff.1 hg).1, fun i v hv => ?_⟩, hn, (fun h => by cases h), hc⟩
    have hi : i < n := by rw [hn]; exact (List.getElem?_eq_some_iff.1 hv).1
    obtain ⟨h0, h1, h2, h3⟩ := flatB_get xs i v hv
    rw [← ht] at h0 h1 h2 h3
    rw [List.getElem?_take_of_lt (by omega), Array.getElem?_toList] at h0 h1 h2 h3
    rw [Lib.cell_of_heap hg, Lib.cell_of_heap hg, Lib.cell_of_heap hg, Lib.cell_of_heap hg]
    simpa using ⟨h0, h1, h2, h3⟩
/-- A condition's cells. -/
abbrev flatC (d : Cd) : List Value := [.int .i64 d.k, .string d.n, .slice d.a d.m d.mc, .int .i64 d.h, .slice d.la d.ll d.lc, .slice d.ra d.rl d.rc]
theorem cells_c {W : World} {b : Nat} {d : Cd} (h : W.heap[b]? = some (bxC d)) : ∀ (j : Nat) (u : Value), (flatC d)[j]? = some u → W.cell? ((⟨b, 0, none⟩ : Addr).add j) = some u := by
  intro j u hu
  rw [WideShapes.add_plain, Lib.cell_of_heap h]
  match j, hu with
  | 0, hu => simpa using hu
  | 1, hu => simpa using hu
  | 2, hu => simpa using hu
  | 3, hu => simpa using hu
  | 4, hu => simpa using hu
  | 5, hu => simpa using hu
  | j + 6, hu => simp at hu
theorem oneCell_c (d : Cd) : ∀ u ∈ flatC d, u.oneCell' = true := by
  intro u hu
  simp only [flatC, List.mem_cons, List.not_mem_nil, or_false] at hu
  rcases hu with rfl | rfl | rfl | rfl | rfl | rfl <;> rfl
theorem bc_own {w : World} {B cp : Nat} {q : Option Addr} {d : Cd} (h : w.ownsRow B 29 6 (.slice q 1 cp) 1 (flatC d)) : ∃ g, q = some ⟨g, 0, none⟩ ∧ B ≤ g ∧ BC w g d := by
  rcases h.2 with ⟨hv, h0⟩ | ⟨g, cap, cur, hv, hB, hg, hc, _, _, ht⟩
  · omega
  · simp only [Value.slice.injEq] at hv
    obtain ⟨rfl, _, rfl⟩ := hv
    have hx : ∀ (i : Nat) (u : Value), i < 6 → (flatC d)[i]? = some u → w.cell? ⟨g, i, none⟩ = some u := by
      intro i u hi hu
      rw [← ht, List.getElem?_take_of_lt (by omega), Array.getElem?_toList] at hu
      rw [Lib.cell_of_heap hg]
      exact hu
    exact ⟨g, rfl, hB, hx 0 _ (by omega) rfl, hx 1 _ (by omega) rfl, hx 2 _ (by omega) rfl, hx 3 _ (by omega) rfl, hx 4 _ (by omega) rfl, hx 5 _ (by omega) rfl⟩

/-- A condition's box, four of its cells written over. -/
theorem sets_c {W : World} {p : Nat} {c : Cd} (h : BC W p c) (a' : Option Addr) (mc' : Nat) (la' : Option Addr) (lc' : Nat) (ra' : Option Addr) (rc' : Nat) :
    BC ((((W.setCell ⟨p, 1, none⟩ (.string c.n)).setCell ⟨p, 2, none⟩ (.slice a' c.m mc')).setCell ⟨p, 4, none⟩ (.slice la' c.ll lc')).setCell ⟨p, 5, none⟩ (.slice ra' c.rl rc')) p (c.tw a' mc' la' lc' ra' rc') := by
  have g2 : (W.setCell ⟨p, 1, none⟩ (.string c.n)).cell? ⟨p, 2, none⟩ = some (.slice c.a c.m c.mc) := by rw [World.cell?_setCell_other _ _ _ _ (by simp)]; exact h.c2
  have g4 : ((W.setCell ⟨p, 1, none⟩ (.string c.n)).setCell ⟨p, 2, none⟩ (.slice a' c.m mc')).cell? ⟨p, 4, none⟩ = some (.slice c.la c.ll c.lc) := by rw [World.cell?_setCell_other _ _ _ _ (by simp), World.cell?_setCell_other _ _ _ _ (by simp)]; exact h.c4
  have g5 : (((W.setCell ⟨p, 1, none⟩ (.string c.n)).setCell ⟨p, 2, none⟩ (.slice a' c.m mc')).setCell ⟨p, 4, none⟩ (.slice la' c.ll lc')).cell? ⟨p, 5, none⟩ = some (.slice c.ra c.rl c.rc) := by rw [World.cell?_setCell_other _ _ _ _ (by simp), World.cell?_setCell_other _ _ _ _ (by simp), World.cell?_setCell_other _ _ _ _ (by simp)]; exact h.c5
  refine ⟨?_, ?_, ?_, ?_, ?_, ?_⟩
  · rw [World.cell?_setCell_other _ _ _ _ (by simp), World.cell?_setCell_other _ _ _ _ (by simp), World.cell?_setCell_other _ _ _ _ (by simp), World.cell?_setCell_other _ _ _ _ (by simp)]; exact h.c0
  · rw [World.cell?_setCell_other _ _ _ _ (by simp), World.cell?_setCell_other _ _ _ _ (by simp), World.cell?_setCell_other _ _ _ _ (by simp), World.cell?_setCell_same _ _ _ h.c1]
  · rw [World.cell?_setCell_other _ _ _ _ (by simp), World.cell?_setCell_other _ _ _ _ (by simp), World.cell?_setCell_same _ _ _ g2]
  · rw [World.cell?_setCell_other _ _ _ _ (by simp), World.cell?_setCell_other _ _ _ _ (by simp), World.cell?_setCell_other _ _ _ _ (by simp), World.cell?_setCell_other _ _ _ _ (by simp)]; exact h.c3
  · rw [World.cell?_setCell_other _ _ _ _ (by simp), World.cell?_setCell_same _ _ _ g4]
  · rw [World.cell?_setCell_same _ _ _ g5]
/-- Rows that a call owns stay where a lower block is written over. -/
theorem own_sets {W : World} {p B : Nat} {e : TypeId} {s : Nat} {v : Value} {n : Nat} {xs : List Value} (h : W.ownsRow B e s v n xs) (hp : p < B) (x1 x2 x4 x5 : Value) :
    ((((W.setCell ⟨p, 1, none⟩ x1).setCell ⟨p, 2, none⟩ x2).setCell ⟨p, 4, none⟩ x4).setCell ⟨p, 5, none⟩ x5).ownsRow B e s v n xs :=
  ownsRow_setCell_below (ownsRow_setCell_below (ownsRow_setCell_below (ownsRow_setCell_below h (a := ⟨p, 1, none⟩) hp x1) (a := ⟨p, 2, none⟩) hp x2) (a := ⟨p, 4, none⟩) hp x4) (a := ⟨p, 5, none⟩) hp x5
theorem below_sets {w W : World} {p B : Nat} (h : Below B w W) (hp : B ≤ p) (x1 x2 x4 x5 : Value) :
    Below B w ((((W.setCell ⟨p, 1, none⟩ x1).setCell ⟨p, 2, none⟩ x2).setCell ⟨p, 4, none⟩ x4).setCell ⟨p, 5, none⟩ x5) :=
  (((h.setCell (p := ⟨p, 1, none⟩) hp x1).setCell (p := ⟨p, 2, none⟩) hp x2).setCell (p := ⟨p, 4, none⟩) hp x4).setCell (p := ⟨p, 5, none⟩) hp x5

theorem tw_end {p : Nat} {c : Cd} {wr W w1 w2 w3 : World} {q1 q2 q3 : Option Addr} {m1 m2 m3 : Nat} (hp : wr.heap.size = p) (hlt : p < W.heap.size) (hbx : Below wr.heap.size wr W) (ho1 : w1.ownsRow W.heap.size 73 4 (.slice q1 c.m m1) c.m (flatB c.ts)) (hb1 : Below W.heap.size W.drew w1) (ho2 : w2.ownsRow w1.heap.size 67 5 (.slice q2 c.ll m2) c.ll (flatO c.xs)) (hb2 : Below w1.heap.size w1 w2) (ho3 : w3.ownsRow w2.heap.size 67 5 (.slice q3 c.rl m3) c.rl (flatO c.ys)) (hb3 : Below w2.heap.size w2 w3) (T3 : w3.heap[p]? = some (bxC c)) :
    ∃ (a' : Option Addr) (mc' : Nat) (la' : Option Addr) (lc' : Nat) (ra' : Option Addr) (rc' : Nat), BC ((((w3.setCell ⟨p, 1, none⟩ (.string c.n)).setCell ⟨p, 2, none⟩ (.slice q1 c.m m1)).setCell ⟨p, 4, none⟩ (.slice q2 c.ll m2)).setCell ⟨p, 5, none⟩ (.slice q3 c.rl m3)) p (c.tw a' mc' la' lc' ra' rc') ∧
      (c.tw a' mc' la' lc' ra' rc').In ((((w3.setCell ⟨p, 1, none⟩ (.string c.n)).setCell ⟨p, 2, none⟩ (.slice q1 c.m m1)).setCell ⟨p, 4, none⟩ (.slice q2 c.ll m2)).setCell ⟨p, 5, none⟩ (.slice q3 c.rl m3)) ∧
      Below wr.heap.size wr ((((w3.setCell ⟨p, 1, none⟩ (.string c.n)).setCell ⟨p, 2, none⟩ (.slice q1 c.m m1)).setCell ⟨p, 4, none⟩ (.slice q2 c.ll m2)).setCell ⟨p, 5, none⟩ (.slice q3 c.rl m3)) := by
  have hd : Below W.drew.heap.size W.drew w1 := hb1
  have hs1 := hd.size
  have hs2 := hb2.size
  have hs0 : W.drew.heap.size = W.heap.size := rfl
  refine ⟨q1, m1, q2, m2, q3, m3, sets_c (bc_of T3) _ _ _ _ _ _, ⟨lies_ownE (own_sets (own_on (own_on ho1 hb2) hb3) hlt _ _ _ _), liesO_own (own_sets (own_on ho2 hb3) (by omega) _ _ _ _), liesO_own (own_sets ho3 (by omega) _ _ _ _)⟩, below_sets (bt hbx (bt (Below.refl _ _).drew (bt hd (bt hb2 hb3)))) (by omega) _ _ _ _⟩

set_option maxHeartbeats 16000000 in
theorem twinC_one (b : Nat) (c : Cd) (w : World) (hc : c.In w) (hL : c.Light) (hB : BC w b c) :
    Calls Try.prog 9 #[.slice (some ⟨b, 0, none⟩) 1 1] w fun e w' => ∃ (q : Nat) (cq : Nat) (a' : Option Addr) (mc' : Nat) (la' : Option Addr) (lc' : Nat) (ra' : Option Addr) (rc' : Nat), e = .returned (.slice (some ⟨q, 0, none⟩) 1 cq) ∧ BC w' q (c.tw a' mc' la' lc' ra' rc') ∧ (c.tw a' mc' la' lc' ra' rc').In w' ∧ Below w.heap.size w w' := by
  go_enter Try.func9, Try.ntmps9
  go_wp2_with fail
  go_loopw [3, 4] (fun o i wr => (o = .slice none 0 0 ∧ i = .int .i64 0 ∧ wr = w) ∨ (∃ (q : Nat) (cq : Nat) (a' : Option Addr) (mc' : Nat) (la' : Option Addr) (lc' : Nat) (ra' : Option Addr) (rc' : Nat), o = .slice (some ⟨q, 0, none⟩) 1 cq ∧ i = .int .i64 1 ∧ BC wr q (c.tw a' mc' la' lc' ra' rc') ∧ (c.tw a' mc' la' lc' ra' rc').In wr ∧ Below w.heap.size w wr)) (fun _ i _ => 1 - (intOf i).toNat)
  case atStart => exact Or.inl ⟨rfl, rfl, rfl⟩
  case round =>
    rcases hrel with ⟨rfl, rfl, rfl⟩ | ⟨q, cq, a', mc', la', lc', ra', rc', rfl, rfl, hb, hi, hw⟩
    case inr =>
      go_wp2_with fail
      go_ret
      exact ⟨q, cq, a', mc', la', lc', ra', rc', rfl, hb, hi, hw⟩
    have hlb := cell_lt hB.c0
    obtain ⟨c0, c1, c2, c3, c4, c5⟩ := hB
    have hbx := below_new wr (bxC c)
    have hc0 := hc.on hbx
    have T0 := heap_alloc_new wr (bxC c)
    have hsz : (wr.alloc (bxC c)).heap.size = wr.heap.size + 1 := by simp
    go_upto_region 6 with fail
    clear c0 c1 c2 c3 c4 c5 hlb hc
    generalize wr.alloc (bxC c) = W at hbx hc0 T0 hsz
    obtain ⟨b0, b1, b2, b3, b4, b5⟩ := bc_of T0
    have hm20 : c.m ≤ 20 := hL.m
    have hl40 : c.ll ≤ 1000 := by have := hL.l; omega
    have hr40 : c.rl ≤ 1000 := by have := hL.r; omega
    go_cut [] from 16 to 31 (fun wx => ∃ (a' : Option Addr) (mc' : Nat) (la' : Option Addr) (lc' : Nat) (ra' : Option Addr) (rc' : Nat), BC wx wr.heap.size (c.tw a' mc' la' lc' ra' rc') ∧ (c.tw a' mc' la' lc' ra' rc').In wx ∧ Below wr.heap.size wr wx)
    case first =>
      have hlt : wr.heap.size < W.heap.size := by omega
      have hD : Below W.heap.size W W.drew := (Below.refl _ _).drew
      go_region_with (first
        | (go_at_call 25; refine (twinO_any c.ra c.rl c.rc c.ys w2 (hc0.y.on (bt hD (bt hb1 hb2))) hr40).mono ?_; rintro e w3 ⟨q3, m3, rfl, ho3, hb3⟩; have T3 := ((bt hD (bt hb1 (bt hb2 hb3))).block _ hlt).trans T0; obtain ⟨f0, f1, f2, f3, f4, f5⟩ := bc_of T3; clear e0 e1 e2 e3 e4 e5 T2; have z1 := Lib.frozen_of_heap T3 1; have z2 := Lib.frozen_of_heap T3 2; have z4 := Lib.frozen_of_heap T3 4; have z5 := Lib.frozen_of_heap T3 5)
        | (go_at_call 25; refine (twinO_any c.la c.ll c.lc c.xs w1 (hc0.x.on (bt hD hb1)) hl40).mono ?_; rintro e w2 ⟨q2, m2, rfl, ho2, hb2⟩; have T2 := ((bt hD (bt hb1 hb2)).block _ hlt).trans T0; obtain ⟨e0, e1, e2, e3, e4, e5⟩ := bc_of T2; clear d0 d1 d2 d3 d4 d5 T1)
        | (go_at_call 24; refine (twinA_any c.n c.a c.m c.mc c.ts W.drew (hc0.t.on hD) hm20).mono ?_; rintro e w1 ⟨q1, m1, rfl, ho1, hb1⟩; have T1 := ((bt hD hb1).block _ hlt).trans T0; obtain ⟨d0, d1, d2, d3, d4, d5⟩ := bc_of T1; clear b0 b1 b2 b3 b4 b5))
      all_goals
        go_wp2_with fail
        go_meet
        exact tw_end rfl hlt hbx ho1 hb1 ho2 hb2 ho3 hb3 T3
    case rest =>
      clear b0 b1 b2 b3 b4 b5 T0 hc0 hbx hsz
      obtain ⟨a', mc', la', lc', ra', rc', hT, hI, hw⟩ := hcut
      obtain ⟨i0, hi, hz0, hz1, hz2⟩ := info_parts infoC
      have hbo := below_new wc (bxC (c.tw a' mc' la' lc' ra' rc'))
      have hI1 := hI.on hbo
      have hw1 := bt hw hbo
      have hcs := hide (cells_c (heap_alloc_new wc (bxC (c.tw a' mc' la' lc' ra' rc'))))
      obtain ⟨c0, c1, c2, c3, c4, c5⟩ := hT
      simp only at c0 c1 c2 c3 c4 c5
      go_wp2_with (at_builtin; refine wpList_append_own_wide _ rfl _ _ 33 rfl (wc.heap.size + 1) 29 i0 (.agg #[.int .i64 0, .string ⟨#[]⟩, .slice none 0 0, .int .i64 0, .slice none 0 0, .slice none 0 0]) 6 104 Try.underlying33 hi hz0 hz1 hz2 rfl (by decide) _ 0 [] rfl (World.ownsRow_nil _ _ _ _) ⟨wc.heap.size, 0, none⟩ 1 1 (flatC (c.tw a' mc' la' lc' ra' rc')) rfl ?c0 ?c1 ?c2 ?c3 ?c4 ?c5 ?_)
      case c0 => rfl
      case c1 => exact unhide hcs
      case c2 => exact oneCell_c _
      case c3 => unfold maxLen; omega
      case c4 => omega
      case c5 => simp
      intro v' w8 hown8 hgrow hnil8
      have hb8 := (Below.refl (wc.alloc (bxC (c.tw a' mc' la' lc' ra' rc'))).heap.size (wc.alloc (bxC (c.tw a' mc' la' lc' ra' rc')))).grown hgrow (Nat.le_refl _) (fun m hm => by cases hm)
      have hI8 := hI1.on hb8
      have hw8 := bt hw1 hb8
      obtain ⟨q8, c8, rfl⟩ := own_slice hown8
      obtain ⟨g, rfl, -, hC⟩ := bc_own hown8
      clear hgrow hnil8 hcs hI hI1 hw hw1 hbo hb8 c0 c1 c2 c3 c4 c5 hown8
      go_wp2_with fail
      go_roundw
      case rel => exact Or.inr ⟨g, c8, a', mc', la', lc', ra', rc', rfl, rfl, hC, hI8, hw8⟩
      case measure => simp [intOf]
end Go.Proofs.Ytakhcifhfbiopaa.Sb

/- The walk of constablelaw06.MatchNamed: it answers true, whatever the atom and the fact. -/
import Derived.Test.YtmoalmpcobljkaaMatK
import Derived.Test.YtmoalmpcobljkaaMatS
namespace Go.Proofs.Ytmoalmpcobljkaa.Sb
open Go.RowKit
open V

theorem rowS_lit {w : World} {b : Nat} {ss : List ByteArray} {T : TypeId} (h : w.heap[b]? = some (.cells (ss.map Value.string).toArray T)) : RowS w (some ⟨b, 0, none⟩) ss := by
  refine Or.inr ⟨b, 0, rfl, heap_lt h, fun i s hs => ?_⟩
  rw [Lib.cell_of_heap h]
  simp [hs]
theorem lies_terms {w : World} {B n cp : Nat} {ao : Option Addr} {xs : List Bb} (h : w.ownsRow B 47 4 (.slice ao n cp) n (flatB xs)) : Lies w ao n cp xs := by
  have hn : n = xs.length := by have := h.1; rw [flatB_len] at this; omega
  refine ⟨?_, hn, (own_nil h).1, (own_nil h).2⟩
  rcases h.2 with ⟨_, h0⟩ | ⟨g, cap, cur, hv, _, hg, _, _, _, ht⟩
  · left; exact List.eq_nil_of_length_eq_zero (by omega)
  · simp only [Value.slice.injEq] at hv
    obtain ⟨rfl, _, _⟩ := hv
    refine Or.inr ⟨g, 0, rfl, heap_lt hg, fun i v hv => ?_⟩
    have hi : i < n := by rw [hn]; exact (List.getElem?_eq_some_iff.1 hv).1
    obtain ⟨h0, h1, h2, h3⟩ := flatB_get xs i v hv
    rw [← ht] at h0 h1 h2 h3
    rw [List.getElem?_take_of_lt (by omega), Array.getElem?_toList] at h0 h1 h2 h3
    rw [Lib.cell_of_heap hg, Lib.cell_of_heap hg, Lib.cell_of_heap hg, Lib.cell_of_heap hg]
    simpa using ⟨h0, h1, h2, h3⟩
theorem own_block {w : World} {B : Nat} {e : TypeId} {s : Nat} {a : Option Addr} {n cap : Nat} {xs : List Value} (h : w.ownsRow B e s (.slice a n cap) n xs) (hn : 0 < n) : ∃ g cur, a = some ⟨g, 0, none⟩ ∧ B ≤ g ∧ g < w.heap.size ∧ w.heap[g]? = some (.cells cur e) := by
  rcases h.2 with ⟨hv, h0⟩ | ⟨g, cap', cur, hv, hB, hg, _⟩
  · omega
  · simp only [Value.slice.injEq] at hv
    exact ⟨g, cur, hv.1, hB, heap_lt hg, hg⟩
/-- The law's two boxes: the atom, the fact. -/
structure BA (W : World) (b : Nat) (n : ByteArray) (a : Option Addr) (len cap : Nat) (ts : List Bb) (f : Fb) : Prop where
  a0 : W.cell? ⟨b, 0, none⟩ = some (.string n)
  a1 : W.cell? ⟨b, 1, none⟩ = some (.slice a len cap)
  b0 : W.cell? ⟨b + 1, 0, none⟩ = some (.string f.n)
  b1 : W.cell? ⟨b + 1, 1, none⟩ = some (.slice f.a f.len f.cap)
  t : Lies W a len cap ts
  f : f.In W
theorem BA.on {W w1 : World} {b : Nat} {n : ByteArray} {a : Option Addr} {len cap : Nat} {ts : List Bb} {f : Fb} (T : BA W b n a len cap ts f) (hb : Below W.heap.size W w1) : BA w1 b n a len cap ts f :=
  ⟨cell_on hb T.a0, cell_on hb T.a1, cell_on hb T.b0, cell_on hb T.b1, T.t.on hb, T.f.on hb⟩
theorem BA.cs {W : World} {b : Nat} {n : ByteArray} {a : Option Addr} {len cap : Nat} {ts : List Bb} {f : Fb} (T : BA W b n a len cap ts f) : W.cell? ⟨b, 0, none⟩ = some (.string n) ∧ W.cell? ⟨b, 1, none⟩ = some (.slice a len cap) ∧ W.cell? ⟨b + 1, 0, none⟩ = some (.string f.n) ∧ W.cell? ⟨b + 1, 1, none⟩ = some (.slice f.a f.len f.cap) := ⟨T.a0, T.a1, T.b0, T.b1⟩
theorem ba_of (w : World) (n : ByteArray) (a : Option Addr) (len cap : Nat) (ts : List Bb) (f : Fb) (hA : Lies w a len cap ts) (hf : f.In w) : Below w.heap.size w ((w.alloc (bxA n a len cap)).alloc (bxF f)) ∧ BA ((w.alloc (bxA n a len cap)).alloc (bxF f)) w.heap.size n a len cap ts f := by
  have hb : Below w.heap.size w ((w.alloc (bxA n a len cap)).alloc (bxF f)) := ((Below.refl _ _).alloc (Nat.le_refl _) _).alloc (by simp) _
  have T := bo_of w n a len cap f
  exact ⟨hb, T.a0, T.a1, T.b0, T.b1, hA.on hb, hf.on hb⟩
abbrev n6O : Obj := .cells #[.string ⟨#[65, 97]⟩, .string ⟨#[66, 98]⟩, .string ⟨#[67, 99]⟩, .string ⟨#[68, 100]⟩, .string ⟨#[69, 101]⟩, .string ⟨#[70, 102]⟩] 9
theorem lt_ren {ts : List Bb} (h5 : ts.length ≤ 5) (hT : ∀ t ∈ ts, Lt t) : ∀ t ∈ ts.map (rnT (varsL ts) (varsL ts).length), Lt t := fun t ht => by
  obtain ⟨u, hu, rfl⟩ := List.mem_map.1 ht
  refine ⟨?_, (hT u hu).2⟩
  show (rnK (varsL ts) u.1 (varsL ts).length).size ≤ 200
  by_cases hz : u.1.size = 0
  · have : rnK (varsL ts) u.1 (varsL ts).length = u.1 := rn_not (fun j _ e => (mem_vars.1 (List.mem_of_getElem? e)).2 hz)
    rw [this]; omega
  · obtain ⟨j, _, h6, _, e⟩ := ren_at h5 hu hz
    rw [e]; exact (nm6_var _ (List.getElem_mem h6)).2.2

set_option maxHeartbeats 8000000 in
set_option maxRecDepth 100000 in
theorem named_law (n : ByteArray) (a : Option Addr) (len cap : Nat) (ts : List Bb) (f : Fb) (w : World) (hA : Lies w a len cap ts) (hf : f.In w) :
    Calls Try.prog 5 #[.agg #[.string n, .slice a len cap], .agg #[.string f.n, .slice f.a f.len f.cap]] w fun e w' => e = .returned (.bool true) ∧ Below w.heap.size w w' := by
  obtain ⟨hb0, T⟩ := ba_of w n a len cap ts f hA hf
  have HLN := hide hA.len
  clear hA hf
  have hm1 := aheavy_any n a len cap ts _ T.t
  go_enter Try.func5, Try.ntmps5
  go_wp2_with fail
  refine hm1.mono ?_
  rintro e w1 ⟨rfl | ⟨rfl, hn, h20, hT⟩, hb1⟩
  · have hw1 := bt hb0 hb1
    clear hm1 T
    go_wp2_with fail
    go_ret
    exact ⟨rfl, hw1⟩
  have hw1 := bt hb0 hb1
  have T1 := T.on hb1
  have HT := hide hT
  clear hm1 T hb0 hb1 hT
  obtain ⟨a0, a1, b0, b1⟩ := T1.cs
  go_wp2_with fail
  refine (heavy_fb f w1 T1.f).mono ?_
  rintro e w2 ⟨rfl | ⟨rfl, hF⟩, hb2⟩
  · have hw2 := bt hw1 hb2
    clear T1 a0 a1 b0 b1
    go_wp2_with fail
    go_ret
    exact ⟨rfl, hw2⟩
  have hw2 := bt hw1 hb2
  have T2 := T1.on hb2
  clear T1 hb2 a0 a1 b0 b1 hw1
  obtain ⟨a0, a1, b0, b1⟩ := T2.cs
  go_wp2_with fail
  cases hra : rightA n ts with
  | false =>
    refine (refAtom_x n a len cap ts false w2 hn (unhide HT) T2.t h20 (hide hra)).mono ?_
    rintro e w3 ⟨rfl, hb3⟩
    have hw3 := bt hw2 hb3
    clear T2 a0 a1 b0 b1 hra
    go_wp2_with fail
    go_ret
    exact ⟨rfl, hw3⟩
  | true =>
    refine (refAtom_x n a len cap ts true w2 hn (unhide HT) T2.t h20 (hide hra)).mono ?_
    rintro e w3 ⟨rfl, hb3⟩
    have hw3 := bt hw2 hb3
    have T3 := T2.on hb3
    have HRA := hide hra
    have h5 : len ≤ 5 := by have := (right_terms hra).1; rw [← unhide HLN] at this; exact this
    clear T2 hb3 a0 a1 b0 b1 hw2 hra
    obtain ⟨a0, a1, b0, b1⟩ := T3.cs
    go_wp2_with fail
    obtain ⟨m, hm⟩ : ∃ m, (varsL ts).length = m := ⟨_, rfl⟩
    have hm5 : m ≤ 5 := by have := vars_len ts; rw [← unhide HLN] at this; omega
    have HM := hide hm
    clear hm
    refine (vars_k n a len cap ts m w3 (unhide HT) T3.t h20 HM).mono ?_
    rintro e w4 ⟨q4, d4, rfl, hr4, hb4, -⟩
    have hw4 := bt hw3 hb4
    have T4 := T3.on hb4
    clear T3 hb4 hw3 a0 a1 b0 b1
    have hbz : Below w4.heap.size w4 (w4.alloc n6O) := (Below.refl _ _).alloc (Nat.le_refl _) _
    have nm5 : (w4.alloc n6O).heap[w4.heap.size]? = some n6O := heap_alloc_new w4 _
    have T5 := T4.on hbz
    have hr5 := hr4.on hbz
    have hw5 := bt hw4 hbz
    obtain ⟨a0, a1, b0, b1⟩ := T4.cs
    have l0 := cell_lt a0
    go_wp2_with fail
    clear l0 a0 a1 b0 b1 T4 hr4 hw4 hbz
    generalize w4.alloc n6O = W5 at nm5 T5 hr5 hw5
    generalize w4.heap.size = z at nm5
    refine (twinA_any n a len cap ts W5 T5.t h20).mono ?_
    rintro e w6 ⟨q6, d6, rfl, hown6, hb6⟩
    have hbx : Below w6.heap.size w6 (w6.alloc (bxA n q6 len d6)) := (Below.refl _ _).alloc (Nat.le_refl _) _
    have hown7 := own_on hown6 hbx
    have k7 := heap_alloc_new w6 (bxA n q6 len d6)
    have hb7 := bt hb6 hbx
    have HQ6 : Hid (∀ g o, q6 = some ⟨g, o, none⟩ → g ≠ w6.heap.size) := hide (by
      rintro g o rfl
      have := (hown6.lt g rfl).2
      omega)
    clear hown6 hb6 hbx
    go_wp2_with fail
    generalize w6.alloc (bxA n q6 len d6) = W7 at hown7 k7 hb7
    generalize w6.heap.size = x at k7 HQ6
    go_loopw [8, 9] (fun i _ wr => ∃ k : Nat, k ≤ len ∧ i = .int .i64 k ∧ wr.ownsRow W5.heap.size 47 4 (.slice q6 len d6) len (flatB (mixL (varsL ts) m ts k)) ∧ wr.heap[x]? = some (bxA n q6 len d6) ∧ Below W5.heap.size W5 wr) (fun i _ _ => len - (intOf i).toNat)
    case atStart => exact ⟨0, Nat.zero_le _, rfl, hown7, k7, hb7⟩
    case round =>
      clear hown7 k7 hb7
      obtain ⟨i, hi, rfl, hown, hbx, hbw⟩ := hrel
      obtain ⟨x0, x1⟩ := pair_of hbx
      by_cases hlt : i < len
      · have hit : i < ts.length := by rw [← unhide HLN]; exact hlt
        rw [mix_mid hit] at hown
        have HMM := hide (mid_mix (vs := varsL ts) (m := m) hit)
        go_wp2_with fail
        go_loopw [9] (fun k9 wr => ∃ k : Nat, k ≤ m ∧ k9 = .int .i64 k ∧ wr.ownsRow W5.heap.size 47 4 (.slice q6 len d6) len (flatB (midL (varsL ts) m ts i k hit)) ∧ wr.heap[x]? = some (bxA n q6 len d6) ∧ Below W5.heap.size W5 wr) (fun k9 _ => m - (intOf k9).toNat)
        case atStart => exact ⟨0, Nat.zero_le _, rfl, hown, hbx, hbw⟩
        case round =>
          clear hown hbx hbw x0 x1
          obtain ⟨k, hk, rfl, hown, hbx, hbw⟩ := hrel
          obtain ⟨x0, x1⟩ := pair_of hbx
          have T := T5.on hbw
          obtain ⟨a0, a1, b0, b1⟩ := T.cs
          by_cases hkm : k < m
          · have hkv : k < (varsL ts).length := by rw [unhide HM]; exact hkm
            have k6 : k < nm6.length := by show k < 6; omega
            obtain ⟨b, o, ha, hbl, c0, c1, c2, c3⟩ := T.t.row.up hit
            obtain ⟨bv, ov, hq, hbv, e0⟩ := (hr5.on hbw).up hkv
            have n0 : wr.cell? ⟨z, k, none⟩ = some (.string nm6[k]) := by
              obtain ⟨bn, on, hq, hbn, n0⟩ := (rowS_lit (ss := nm6) ((hbw.block _ (heap_lt nm5)).trans nm5)).up k6
              simp only [Option.some.injEq, Addr.mk.injEq, and_true] at hq
              obtain ⟨rfl, rfl⟩ := hq
              rw [Nat.zero_add] at n0
              exact n0
            subst ha
            subst hq
            have ei : (i : Int) < (len : Int) := by omega
            have ek : (k : Int) < (m : Int) := by omega
            have ek6 : (k : Int) < 6 := by have : k < 6 := k6; omega
            by_cases he : ts[i].1 = (varsL ts)[k]
            · have d0 := str_t he
              have HS := hide (mid_set (m := m) (h := hit) hkv he k6)
              clear he
              generalize ts[i] = t at c0 c1 c2 c3 d0
              generalize (varsL ts)[k] = s at e0 d0
              generalize nm6[k] = nn at n0 HS
              clear k6
              obtain ⟨g, cur, hqg, hBg, hgl, hgc⟩ := own_block hown (by omega)
              have hgx := unhide HQ6 g 0 hqg
              obtain ⟨gb, go', hgq, _, g0, _⟩ := (lies_terms hown).row.up (i := i) (by rw [← (lies_terms hown).len]; exact hlt)
              have hge : gb = g ∧ go' = 0 := by rw [hqg] at hgq; simp at hgq; exact ⟨hgq.1.symm, hgq.2.symm⟩
              obtain ⟨rfl, rfl⟩ := hge
              generalize (midL (varsL ts) m ts i k hit)[i]'_ = y at g0
              rw [Nat.zero_add] at g0
              have gf : wr.frozen? ⟨gb, i * 4, none⟩ = false := Lib.frozen_of_heap hgc _
              rw [hqg] at x1
              have hown' := hown
              rw [hqg] at hown'
              have HG := hide hqg
              clear hqg hgq hgc hgl
              go_wp2_with fail
              go_quiet (fail)
              go_wp2_with fail
              go_region
              go_wp2_with fail
              go_roundw
              case rel =>
                refine ⟨k + 1, by omega, by go_num, ?_, ?_, ?_⟩
                · rw [← unhide HS, unhide HG]
                  exact (World.ownsRow.stored (w := wr.drewN (nq + 1)) hown' (i * 4) (.string nn)).1
                · rw [heap_setCell_other (wr.drewN (nq + 1)) ⟨gb, i * 4, none⟩ x _ (fun e => hgx e.symm)]
                  exact hbx
                · exact (below_drewN hbw _).setCell hBg _
              case measure => simp [intOf]; omega
            · have d0 := str_f he
              have HS := hide (mid_same (m := m) (h := hit) hkv he)
              clear he
              generalize ts[i] = t at c0 c1 c2 c3 d0
              generalize (varsL ts)[k] = s at e0 d0
              clear k6 n0
              go_wp2_with fail
              go_quiet (fail)
              go_wp2_with fail
              go_roundw
              case rel => exact ⟨k + 1, by omega, by go_num, by rw [unhide HS]; exact hown, hbx, below_drewN hbw _⟩
              case measure => simp [intOf]; omega
          · obtain rfl : k = m := by omega
            go_wp2_with fail
            go_roundw
            case rel => exact ⟨i + 1, by omega, by go_num, by rw [← unhide HMM]; exact hown, hbx, hbw⟩
            case measure => simp [intOf]; omega
      · obtain rfl : i = len := by omega
        rw [mix_end (by rw [← unhide HLN]; exact Nat.le_refl _)] at hown
        have hL := lies_terms hown
        have T := T5.on hbw
        obtain ⟨a0, a1, b0, b1⟩ := T.cs
        have hwr := bt hw5 hbw
        have hr := hr5.on hbw
        have nm := (hbw.block _ (heap_lt nm5)).trans nm5
        obtain ⟨xs, ys, ok, h1, h2, h3, h4, h4', h6⟩ := named_facts f (unhide HRA)
        have H1 := hide h1
        rw [unhide HM] at h2
        have H2 := hide h2
        have H3 := hide h3
        have HLX := hide h4
        have HLY := hide h4'
        have HG := hide h6
        have HTR : Hid (∀ t ∈ ts.map (rnT (varsL ts) m), Lt t) := hide (by
          have := lt_ren (ts := ts) (by rw [← unhide HLN]; exact h5) (unhide HT)
          rw [unhide HM] at this
          exact this)
        clear h1 h2 h3 h4 h4' h6 hown hbx hbw nm5 hr5 T5 hw5
        go_wp2_with fail
        refine (one_any n a i cap ts f none 0 0 [] xs ok wr hn (unhide HT) T.t h20 T.f hF (lies_none _) (by omega) (by intro x hx; cases hx) H1).mono ?_
        rintro e w8 ⟨q8, m8, d8, rfl, hl8, hb8⟩
        have hw8 := bt hwr hb8
        have T8 := T.on hb8
        replace hL := hL.on hb8
        replace x0 := cell_on hb8 x0
        replace x1 := cell_on hb8 x1
        replace hr := hr.on hb8
        replace nm := (hb8.block _ (heap_lt nm)).trans nm
        clear T hb8 hwr a0 a1 b0 b1 H1
        obtain ⟨a0, a1, b0, b1⟩ := T8.cs
        go_wp2_with fail
        refine (one_any n q6 i d6 (ts.map (rnT (varsL ts) m)) f none 0 0 [] ys ok w8 hn (unhide HTR) hL h20 T8.f hF (lies_none _) (by omega) (by intro x hx; cases hx) H2).mono ?_
        rintro e w9 ⟨q9, m9, d9, rfl, hl9, hb9⟩
        obtain rfl : m9 = m8 := by rw [hl8.len, hl9.len]; exact (unhide H3).symm
        have hw9 := bt hw8 hb9
        replace hl8 := hl8.on hb9
        replace hr := hr.on hb9
        replace nm := (hb9.block _ (heap_lt nm)).trans nm
        have hm9 : m9 ≤ 100 := by have := hl9.len; have := list_len (unhide HLY); omega
        clear T8 hb9 hw8 a0 a1 b0 b1 H2 H3 hL x0 x1
        go_wp2_with fail
        go_loopw [14, 15, 16, 17, 18] (fun i _ _ _ _ wr => ∃ k : Nat, k ≤ m ∧ i = .int .i64 k ∧ Below w9.heap.size w9 wr) (fun i _ _ _ _ _ => m - (intOf i).toNat)
        case atStart => exact ⟨0, Nat.zero_le _, rfl, Below.refl _ _⟩
        case round =>
          obtain ⟨k, hk, rfl, hbw⟩ := hrel
          have hww := bt hw9 hbw
          by_cases hkm : k < m
          · cases ok with
            | false =>
              go_wp2_with fail
              refine (wakes_any wr).mono ?_
              rintro e w13 ⟨rfl, hb13⟩
              have hw13 := bt hww hb13
              go_wp2_with fail
              go_ret
              exact ⟨rfl, hw13⟩
            | true =>
              have hkv : k < (varsL ts).length := by rw [unhide HM]; exact hkm
              have k6 : k < nm6.length := by show k < 6; omega
              obtain ⟨v, hv1, hv2⟩ := unhide HG rfl k hkv k6
              obtain ⟨bv, ov, hq, hbv, e0⟩ := (hr.on hbw).up hkv
              have n0 : wr.cell? ⟨z, k, none⟩ = some (.string nm6[k]) := by
                obtain ⟨bn, on, hq, hbn, n0⟩ := (rowS_lit (ss := nm6) ((hbw.block _ (heap_lt nm)).trans nm)).up k6
                simp only [Option.some.injEq, Addr.mk.injEq, and_true] at hq
                obtain ⟨rfl, rfl⟩ := hq
                rw [Nat.zero_add] at n0
                exact n0
              subst hq
              have ek : (k : Int) < (m : Int) := by omega
              have ek6 : (k : Int) < 6 := by have : k < 6 := k6; omega
              generalize (varsL ts)[k] = s at e0 hv1
              generalize nm6[k] = nn at n0 hv2
              clear k6
              have hl8r := hl8.on hbw
              have hl9r := hl9.on hbw
              go_wp2_with fail
              refine (refGet_any q8 m9 d8 xs s v true wr hl8r.row hl8r.le hl8r.ge (by omega) (hide hv1)).mono ?_
              rintro e w10 ⟨rfl, hb10⟩
              replace n0 := cell_on hb10 n0
              have ln := cell_lt n0
              have hbx : Below w10.heap.size w10 (w10.alloc (bxV v)) := (Below.refl _ _).alloc (Nat.le_refl _) _
              replace hl9r := hl9r.on (bt hb10 hbx)
              have hbw10 := bt (bt hbw hb10) hbx
              have k10 := heap_alloc_new w10 (bxV v)
              clear hv1 e0 hl8r
              go_wp2_with fail
              refine (refGet_any q9 m9 d9 ys nn v true _ hl9r.row hl9r.le hl9r.ge (by omega) (hide hv2)).mono ?_
              rintro e w11 ⟨rfl, hb11⟩
              have hbw11 := bt hbw10 hb11
              have k11 := (hb11.block _ (heap_lt k10)).trans k10
              obtain ⟨p0, p1, p2⟩ := trip_of k11
              have lp := cell_lt p0
              have hbw12 : Below w9.heap.size w9 (w11.alloc (bxV v)) := hbw11.alloc hbw11.size _
              have hEq := eqV0 v v
              rw [decide_eq_true rfl] at hEq
              clear hv2 n0 ln k10 k11 hl9r hb10 hb11 hbx hbw10 hbw11
              go_wp2_with fail
              go_roundw
              case rel => exact ⟨k + 1, by omega, by go_num, hbw12⟩
              case measure => simp [intOf]; omega
          · go_wp2_with fail
            refine (wakes_any wr).mono ?_
            rintro e w13 ⟨rfl, hb13⟩
            have hw13 := bt hww hb13
            go_wp2_with fail
            go_ret
            exact ⟨rfl, hw13⟩
end Go.Proofs.Ytmoalmpcobljkaa.Sb

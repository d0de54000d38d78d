/- What expr.Vars answers: the variables as they first stand, each once. -/
import Derived.Test.YtnomndpoklolfaaExpF
import Derived.Maps.OwnSet
import Derived.Maps.AppendAt
namespace Go.Proofs.Ytnomndpoklolfaa.Sb
open Go.RowKit Go.Maps
open Go.WideMaps (keyOf_string_mk)
open V
open Ex (RowO LiesO flatO)

/-- A row of texts lies at a. -/
def RowS (w : World) (a : Option Addr) (ss : List ByteArray) : Prop :=
  ss = [] ∨ ∃ b o, a = some ⟨b, o, none⟩ ∧ b < w.heap.size ∧ ∀ (i : Nat) (s : ByteArray), ss[i]? = some s → w.cell? ⟨b, o + i, none⟩ = some (.string s)
theorem RowS.on {w w' : World} {a : Option Addr} {ss : List ByteArray} (h : RowS w a ss) (hb : Below w.heap.size w w') : RowS w' a ss := by
  rcases h with h | ⟨b, o, ha, hlt, hc⟩
  · exact Or.inl h
  · exact Or.inr ⟨b, o, ha, by have := hb.size; omega, fun i v hv => cell_on hb (hc i v hv)⟩
theorem RowS.up {w : World} {a : Option Addr} {ss : List ByteArray} {i : Nat} (h : RowS w a ss) (hi : i < ss.length) : ∃ b o, a = some ⟨b, o, none⟩ ∧ b < w.heap.size ∧ w.cell? ⟨b, o + i, none⟩ = some (.string ss[i]) := by
  rcases h with h | ⟨b, o, ha, hlt, hc⟩
  · subst h; simp at hi
  · exact ⟨b, o, ha, hlt, hc i ss[i] (by simp [hi])⟩
theorem rowS_own {w : World} {B n cp : Nat} {ao : Option Addr} {ss : List ByteArray} (h : w.ownsRow B 9 1 (.slice ao n cp) n (ss.map Value.string)) (hn : n = ss.length) : RowS w ao ss := by
  rcases h.2 with ⟨_, h0⟩ | ⟨g, cap, cur, hv, _, hg, _, _, _, ht⟩
  · left; exact List.eq_nil_of_length_eq_zero (by omega)
  · simp only [Value.slice.injEq] at hv
    obtain ⟨rfl, _, _⟩ := hv
    refine Or.inr ⟨g, 0, rfl, (Array.getElem?_eq_some_iff.1 hg).1, fun i v hv => ?_⟩
    have hi : i < n := by rw [hn]; exact (List.getElem?_eq_some_iff.1 hv).1
    have h0 : (ss.map Value.string)[i]? = some (.string v) := by rw [List.getElem?_map, hv]; rfl
    rw [← ht] at h0
    rw [List.getElem?_take_of_lt (by omega), Array.getElem?_toList] at h0
    rw [Lib.cell_of_heap hg]
    simpa using h0

theorem lawS : Keyed Try.prog 9 := string_keyed Try.underlying9
theorem zeroU (w : World) : (zeroValue 64).run Try.prog w = .ok (.agg #[]) w := by kernel_rfl
theorem infoS : (Try.prog.info? 9).map (fun i => (i.zero, i.size, i.bytes)) = some (some (.string ⟨#[]⟩), 1, 16) := by kernel_rfl
theorem row_ne {w : World} {base : Nat} {e : TypeId} {size : Nat} {v : Value} {n : Nat} {xs : List Value} (h : w.ownsRow base e size v n xs) {b : Nat} (hb : b < base) : some b ≠ v.ownBlock := fun e1 => by
  have := (h.lt b e1.symm).1
  omega

/-- The set of those that were seen. -/
def seenD (ns : List ByteArray) : DataW Unit := setOf (.agg []) (ns.map (fun s => Lit.string s.data.toList))
theorem seen_has (ns : List ByteArray) (s : ByteArray) : Maps.has (seenD ns) (.string s.data.toList) = ns.any (fun y => decide (y = s)) := by
  unfold seenD
  rw [has_setOf _ _ _ (fun x hx => by obtain ⟨y, _, rfl⟩ := List.mem_map.1 hx; trivial), List.any_map]
  congr 1
  funext y
  simp only [Function.comp]
  by_cases h : y = s
  · subst h; simp [WideAt.sameKey_self (a := Lit.string y.data.toList) trivial]
  · rw [decide_eq_false h, Bool.eq_false_iff]
    intro e
    have := WideAt.sameKey_eq e
    simp only [Lit.string.injEq] at this
    exact h (bytes_ext this)
theorem seen_snoc (ns : List ByteArray) (s : ByteArray) : seenD (ns ++ [s]) = (seenD ns).put (.string s.data.toList) (.agg []) := by
  unfold seenD
  rw [List.map_append]
  exact setOf_snoc _ _ _

/-- The variables of the first k terms. -/
def varsK (ts : List Oo) (k : Nat) : List ByteArray := ((ts.take k).map (fun o => o.2.1)).foldl withL []
theorem varsK_next {ts : List Oo} {k : Nat} (hk : k < ts.length) : varsK ts (k + 1) = withL (varsK ts k) ts[k].2.1 := by
  unfold varsK
  rw [List.take_succ_eq_append_getElem hk, List.map_append, List.foldl_append]; rfl
theorem varsK_end {ts : List Oo} {k : Nat} (hk : ts.length ≤ k) : varsK ts k = varsO ts := by
  unfold varsK varsO
  rw [List.take_of_length_le hk]
theorem varsK_len (ts : List Oo) : ∀ k, (varsK ts k).length ≤ k
  | 0 => by simp [varsK]
  | k + 1 => by
    by_cases hk : k < ts.length
    · rw [varsK_next hk]
      have := varsK_len ts k
      unfold withL
      split
      · omega
      · split
        · omega
        · simp; omega
    · have h1 : varsK ts (k + 1) = varsK ts k := by rw [varsK_end (by omega), varsK_end (by omega)]
      rw [h1]
      have := varsK_len ts k
      omega
theorem with_old {l : List ByteArray} {s : ByteArray} (h : l.any (fun y => decide (y = s)) = true) : withL l s = l := by
  unfold withL
  rw [if_pos h]
  split <;> rfl
theorem with_none {l : List ByteArray} {s : ByteArray} (h : s.size = 0) : withL l s = l := by
  unfold withL; rw [if_pos h]
theorem with_new {l : List ByteArray} {s : ByteArray} (h : l.any (fun y => decide (y = s)) = false) (h0 : s.size ≠ 0) : withL l s = l ++ [s] := by
  unfold withL; rw [if_neg h0, if_neg (by rw [h]; simp)]

set_option maxHeartbeats 4000000 in
set_option maxRecDepth 100000 in
theorem ovars_any (a : Option Addr) (len cap : Nat) (ts : List Oo) (w : World) (hv : ∀ t ∈ ts, LtO t) (hrow : RowO w a ts) (hl : len ≤ ts.length) (hl' : ts.length ≤ len) (h20 : len ≤ 1000) :
    Calls Try.prog 15 #[.slice a len cap] w fun e w' => ∃ (q : Option Addr) (m c : Nat), e = .returned (.slice q m c) ∧ m = (varsO ts).length ∧ RowS w' q (varsO ts) ∧ Below w.heap.size w w' := by
  have hmm := @run_makeMap Try.prog
  obtain ⟨i0, hi, hz0, hz1, hz2⟩ := info_parts infoS
  have HV := hide hv
  clear hv
  go_enter Try.func15, Try.ntmps15
  go_wp2_with fail
  go_loopw [3, 6, 7, 8, 12] (fun v _ _ _ i wr => ∃ k : Nat, k ≤ len ∧ i = .int .i64 k ∧ wr.ownsMap Try.prog 9 unitElem w.heap.size k (seenD (varsK ts k)) ∧ wr.ownsRow (w.heap.size + 1) 9 1 v (varsK ts k).length ((varsK ts k).map Value.string) ∧ Below w.heap.size w wr ∧ w.heap.size + 1 ≤ wr.heap.size) (fun _ _ _ _ i _ => len - (intOf i).toNat)
  case atStart =>
    exact ⟨0, Nat.zero_le _, rfl, World.ownsMap_made _ _ _ _, World.ownsRow_nil _ _ _ _, (Below.refl _ _).alloc (Nat.le_refl _) _, by simp⟩
  case round =>
    obtain ⟨k, hk, rfl, hown, hrw, hnx, hws⟩ := hrel
    have hvl := varsK_len ts k
    by_cases hlt : k < len
    · obtain ⟨b, o, ha, hbl, c0, c1, c2, c3, c4⟩ := (hrow.on hnx).up (show k < ts.length by omega)
      subst ha
      have hlt1 := (unhide HV ts[k] (List.getElem_mem (by omega))).1
      have hnext := hide (varsK_next (ts := ts) (k := k) (by omega))
      have hhas := seen_has (varsK ts k) ts[k].2.1
      have hkey : keyOf Try.prog 9 (.string ts[k].2.1) = some (.string ts[k].2.1.data.toList) := keyOf_string_mk Try.underlying9 (by unfold maxLen; omega)
      generalize ts[k] = t at c0 c1 c2 c3 c4 hlt1 hnext hhas hkey
      have q0 : (wr.alloc (bxO t)).cell? ⟨wr.heap.size, 1, none⟩ = some (.string t.2.1) := (quintO (heap_alloc_new wr (bxO t))).2.1
      have hown0 := hown.alloc (bxO t)
      have hrw0 := hrw.alloc (bxO t)
      have hnx0 := hnx.alloc hnx.size (bxO t)
      have hs0 : (wr.alloc (bxO t)).heap.size = wr.heap.size + 1 := by simp
      cases hany : (varsK ts k).any (fun y => decide (y = t.2.1)) with
      | true =>
        have HN := hide ((unhide hnext).trans (with_old hany))
        rw [hany] at hhas
        clear hany
        go_wp2_with (first
          | (at_lookup; refine wpList_lookup_own_unit _ rfl _ _ 63 rfl 9 64 lawS Try.underlying63 (zeroU _) w.heap.size k _ rfl hown0 _ _ rfl hkey ?_; rw [hhas])
          | go_in)
        go_roundw
        case rel =>
          refine ⟨k + 1, by omega, by go_num, ?_, ?_, hnx0.alloc hnx0.size _, by simp; omega⟩
          · rw [unhide HN]
            exact (hown0.alloc _).mono (Nat.le_succ _)
          · rw [unhide HN]
            exact hrw0.alloc _
        case measure => simp [intOf]; omega
      | false =>
        rw [hany] at hhas
        by_cases hz : t.2.1.size = 0
        · have e0 := emp_t hz
          have HN := hide ((unhide hnext).trans (with_none hz))
          clear hz
          go_wp2_with (first
            | (at_lookup; refine wpList_lookup_own_unit _ rfl _ _ 63 rfl 9 64 lawS Try.underlying63 (zeroU _) w.heap.size k _ rfl hown0 _ _ rfl hkey ?_; rw [hhas])
            | go_in)
          go_roundw
          case rel =>
            refine ⟨k + 1, by omega, by go_num, ?_, ?_, hnx0.alloc hnx0.size _, by simp; omega⟩
            · rw [unhide HN]
              exact (hown0.alloc _).mono (Nat.le_succ _)
            · rw [unhide HN]
              exact hrw0.alloc _
          case measure => simp [intOf]; omega
        · have e0 := emp_f hz
          have HN := hide ((unhide hnext).trans (with_new hany hz))
          clear hz hany
          have hr0 := hrw0.alloc (.cells #[] 64)
          go_wp2_with (first
            | (at_lookup; refine wpList_lookup_own_unit _ rfl _ _ 63 rfl 9 64 lawS Try.underlying63 (zeroU _) w.heap.size k _ rfl hown0 _ _ rfl hkey ?_; rw [hhas])
            | (at_mapUpdate; refine wpList_mapUpdate_own _ rfl _ _ _ 63 rfl 9 64 lawS Try.underlying63 (unitElem (H := Unit)) w.heap.size k _ rfl (hown0.alloc _) (by unfold maxLen; omega) _ _ _ rfl rfl hkey _ [] unitElem_mk ?_; intro w1 hown1 hgrow1; have q1 := grown_cell hgrow1 (show wr.heap.size ≠ w.heap.size by omega) (cell_on ((Below.refl _ _).alloc (Nat.le_refl _) _) q0))
            | (go_at_call 31; refine (clone_any _ _ (by omega)).mono ?_; rintro e w2 ⟨rfl, hb2⟩)
            | (at_builtin; refine wpList_append_own _ rfl _ _ 34 rfl (w.heap.size + 1) 9 i0 (.string ⟨#[]⟩) 1 16 Try.underlying34 hi hz0 hz1 hz2 rfl (by decide) _ _ _ rfl ((own_on (hr0.kept hgrow1 (Or.inr (row_ne hrw (by omega)).symm)) hb2).alloc _) ⟨w2.heap.size, 0, none⟩ 1 1 [.string t.2.1] rfl rfl (cell_one_new _ _ _) (by simp [Value.oneCell']) (by unfold maxLen; omega) (by omega) (by have := hgrow1.size; have := hb2.size; simp at *; omega) ?_; intro v' w3 hown' hgrow3 hnil3)
            | go_in)
          have hr1 := hr0.kept hgrow1 (Or.inr (row_ne hrw (show w.heap.size < w.heap.size + 1 by omega)).symm)
          have hr2 := own_on hr1 hb2
          have s1 := hgrow1.size
          have s2 := hb2.size
          have s3 := hgrow3.size
          simp at s1 s3
          go_roundw
          case rel =>
            refine ⟨k + 1, by omega, by go_num, ?_, ?_, ?_, by omega⟩
            · rw [unhide HN, seen_snoc]
              exact ((hown1.kept (row := none) ⟨hb2.os, hb2.tape, hb2.output, hb2.size, fun j hj _ => hb2.block j hj⟩ (by simp)).alloc _).kept hgrow3 (row_ne hr2 (by omega))
            · rw [unhide HN]
              simpa using hown'
            · exact ((((((hnx0.alloc hnx0.size _).grown hgrow1 (by simp; omega) (fun j hj => by cases hj; omega)).trans (hb2.mono (by omega))).alloc (by omega) _)).grown hgrow3 (by simp; omega) (fun j hj => by have := (hr2.lt j hj).1; omega))
          case measure => simp [intOf]; omega
    · have HE := hide (varsK_end (ts := ts) (k := k) (by omega))
      obtain ⟨q, c, rfl⟩ := own_slice hrw
      go_wp2_with fail
      go_ret
      rw [unhide HE] at hrw
      exact ⟨q, _, c, by rw [unhide HE]; rfl, rfl, rowS_own hrw rfl, hnx⟩
end Go.Proofs.Ytnomndpoklolfaa.Sb

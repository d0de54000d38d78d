/- What slices.SortFunc by subst.byVar does with a list that the call owns. -/
import Derived.Test.YtmoalmpcobljkaaSubG
import Derived.Test.YtmoalmpcobljkaaShelfBS
import Derived.Sort.Row
namespace Go.Proofs.Ytmoalmpcobljkaa.Sb
open Go.RowKit Go.Lib Go.Sort
open V

theorem swo_bind : SWO (ltOf fun x y : Bb => byV x y) where
  irrefl x := by simp [ltOf, byV_zero.2 (rfl : x.1 = x.1)]
  trans x y z h1 h2 := by
    simp only [ltOf, decide_eq_true_eq] at *
    have t1 := byV_tri x y
    have t2 := byV_tri y z
    have := byV_trans x y z (by omega) (by omega)
    omega
  ntrans x y z h1 h2 := by
    simp only [ltOf, decide_eq_false_iff_not] at *
    intro h3
    have t1 := byV_tri x y
    have t3 := byV_tri x z
    have a1 := byV_anti x y
    have h3' : byV x z = -1 := by omega
    by_cases hz : byV x y = 0
    · have e : byV y z = byV x z := by unfold byV; rw [byV_zero.1 hz]
      omega
    · have : byV y x = -1 := by omega
      have := byV_trans _ _ _ this h3'
      omega

theorem heap_put {w : World} {g m : Nat} {os : Array Obj} {cur : Array Value} {e : TypeId} {fr : Nat × Nat} (F : Array Value) (hb : w.heap[g]? = some (.cells cur e fr)) :
    (grow (putRow id (Sort.ahead w m) g 0 F) os).heap[g]? = some (.cells (putCells id 0 F cur) e fr) := by
  have hg : g < w.heap.size := (Array.getElem?_eq_some_iff.1 hb).1
  rw [heap_grow_old _ _ (by simpa using hg)]
  simp [putRow, mapBlock, Sort.ahead, Array.getElem?_modify, hb, onCells]
theorem grown_put {w : World} {g m : Nat} {os : Array Obj} (F : Array Value) : w.grownBy (grow (putRow id (Sort.ahead w m) g 0 F) os) (some g) := by
  refine ⟨rfl, rfl, rfl, by simp, fun k hk hne => ?_⟩
  rw [heap_grow_old _ _ (by simpa using hk)]
  have : g ≠ k := fun e => hne (by rw [e])
  simp [putRow, mapBlock, Sort.ahead, Array.getElem?_modify, this]
theorem take_put (cur : Array Value) (ts : List Value) (h : ts.length ≤ cur.size) : (putCells id 0 ts.toArray cur).toList.take ts.length = ts := by
  apply List.ext_getElem?
  intro j
  by_cases hj : j < ts.length
  · rw [List.getElem?_take_of_lt hj, Array.getElem?_toList]
    simp [putCells, hj, show j < cur.size by omega]
  · rw [List.getElem?_take_eq_none (by omega), List.getElem?_eq_none (by omega)]

def encB (x : Bb) : List Value := [.string x.1, .int .i64 x.2.1, .int .i64 x.2.2.1, .string x.2.2.2]

theorem flatK_B (d : Array Bb) : flatK encB 4 d = (flatB d.toList).toArray := by
  apply Array.ext
  · simp [flatB_len]
  · intro t h1 h2
    have h1' : t < d.size * 4 := by simpa using h1
    have hi : t / 4 < d.size := by omega
    have e1 : (flatK encB 4 d)[t]! = (encB d[t / 4]!)[t % 4]! := get_flatK encB 4 d t h1'
    rw [getElem!_pos _ t h1] at e1
    rw [e1, getElem!_pos d _ hi]
    obtain ⟨h0, h3, h4, h5⟩ := flatB_get d.toList (t / 4) d[t / 4] (by simp [hi])
    have h2' : t < (flatB d.toList).length := by simpa using h2
    have e2 : (flatB d.toList).toArray[t] = (flatB d.toList)[t] := by simp
    rw [e2]
    have hm : t % 4 = 0 ∨ t % 4 = 1 ∨ t % 4 = 2 ∨ t % 4 = 3 := by omega
    rcases hm with hm | hm | hm | hm
    · rw [show t / 4 * 4 = t by omega, List.getElem?_eq_getElem h2'] at h0
      rw [hm, Option.some.inj h0]; rfl
    · rw [show t / 4 * 4 + 1 = t by omega, List.getElem?_eq_getElem h2'] at h3
      rw [hm, Option.some.inj h3]; rfl
    · rw [show t / 4 * 4 + 2 = t by omega, List.getElem?_eq_getElem h2'] at h4
      rw [hm, Option.some.inj h4]; rfl
    · rw [show t / 4 * 4 + 3 = t by omega, List.getElem?_eq_getElem h2'] at h5
      rw [hm, Option.some.inj h5]; rfl

set_option maxHeartbeats 1000000 in
theorem insNone (p : Option Addr) (cap : Nat) (fv : Value) (w : World) :
    Calls Try.prog 58 #[.slice p 0 cap, .int .i64 0, .int .i64 0, fv] w fun e w' => e = .returned (.tuple #[]) ∧ w' = w := by
  go_enter Try.func58, Try.ntmps58
  go_wp2
  refine wp_loop_rounds 1 ?_
  rw [rounds_succ]
  go_wp2
  go_end0
  exact ⟨rfl, rfl⟩
set_option maxHeartbeats 2000000 in
theorem pdqNone (p : Option Addr) (cap : Nat) (lim : Int) (fv : Value) (w : World) :
    Calls Try.prog 49 #[.slice p 0 cap, .int .i64 0, .int .i64 0, .int .i64 lim, fv] w fun e w' => e = .returned (.tuple #[]) ∧ w' = w := by
  go_enter Try.func49, Try.ntmps49
  go_wp2
  refine wp_loop_rounds 1 ?_
  rw [rounds_succ]
  go_wp2_with (go_at_call 58; refine (insNone _ _ _ _).mono ?_; rintro e w' ⟨rfl, rfl⟩)
  (try simp only [Exit.inBlock, Exit.then])
  refine bodyPost_ret (results_none rfl _ _ _) rfl ?_
  exact ⟨rfl, rfl⟩
set_option maxHeartbeats 1000000 in
theorem sortNone (p : Option Addr) (cap : Nat) (fv : Value) (w : World) :
    Calls Try.prog 35 #[.slice p 0 cap, fv] w fun e w' => e = .returned (.tuple #[]) ∧ w' = w := by
  have hl : ∀ W, Calls Try.prog 50 #[.int .u64 0] W fun e w' => e = .returned (.int .i64 (Lib.bitLen 0 : Nat)) ∧ w' = W := fun W => by
    have h := Any.bits_Len (SlLaysF0.n15.bits (P := Try.prog) (ρ := Try.sortB_ren) { Try.sortB with }) 0 W (by omega) (by omega)
    exact h
  go_enter Try.func35, Try.ntmps35
  go_wp2_with (first | (go_at_call 50; refine (hl _).mono ?_; rintro e w' ⟨rfl, rfl⟩) | (go_at_call 49; refine (pdqNone _ _ _ _ _).mono ?_; rintro e w' ⟨rfl, rfl⟩))
  go_end0
  exact ⟨rfl, rfl⟩

set_option maxHeartbeats 1000000 in
theorem sort_any (a : Option Addr) (n cap : Nat) (xs : List Bb) (w0 w : World) (hb : RowKit.Below w0.heap.size w0 w) (hown : w.ownsRow w0.heap.size 61 4 (.slice a n cap) n (flatB xs)) (h1k : n ≤ 1000) :
    Calls Try.prog 35 #[.slice a n cap, .func (.func 36) #[] #[]] w fun e w' => e = .returned (.tuple #[]) ∧ ∃ ys : List Bb, ys.Perm xs ∧ ys.Pairwise (fun x y => byV x y ≤ 0) ∧ w'.ownsRow w0.heap.size 61 4 (.slice a n cap) n (flatB ys) ∧ RowKit.Below w0.heap.size w0 w' := by
  have hown0 := hown
  have hn : n = xs.length := by have := hown.1; rw [flatB_len] at this; omega
  rcases hown.2 with ⟨hv, h0⟩ | ⟨g, cap', cur, hv, hB, hg, hc1, hc2, hc3, ht⟩
  · simp only [Value.slice.injEq] at hv
    obtain ⟨rfl, rfl, rfl⟩ := hv
    have he : xs = [] := List.eq_nil_of_length_eq_zero hn.symm
    subst he
    refine (sortNone none 0 _ w).mono ?_
    rintro e w' ⟨rfl, rfl⟩
    exact ⟨rfl, [], List.Perm.refl _, List.Pairwise.nil, hown0, hb⟩
  · simp only [Value.slice.injEq] at hv
    obtain ⟨rfl, -, rfl⟩ := hv
    have hds : xs.toArray.size = n := by simp [hn]
    have hgl : g < w.heap.size := (Array.getElem?_eq_some_iff.1 hg).1
    have hlen : (flatB xs).length = n * 4 := hown0.1
    have hH : HoldsK encB 4 w g 0 xs.toArray := by
      intro j hj
      rw [flatK_B] at hj ⊢
      have hj' : j < (flatB xs).length := by simpa using hj
      refine ⟨?_, by rw [Nat.zero_add]; exact Lib.frozen_of_heap hg j⟩
      rw [Nat.zero_add, Lib.cell_of_heap hg, getElem!_pos _ j hj, List.getElem_toArray]
      have : (cur.toList.take (n * 4))[j]? = some (flatB xs)[j] := by rw [ht]; simp
      rw [List.getElem?_take_of_lt (by omega), Array.getElem?_toList] at this
      simpa using this
    have hcmp : CmpLays Try.prog 36 #[] encB 4 (fun x y : Bb => byV x y) g 0 xs.toArray.size w := by
      intro m os dk hdk x y
      refine (byVar_g x y _).mono ?_
      rintro e w' ⟨rfl, hgr⟩
      exact ⟨rfl, hgr.out⟩
    have eg : ∀ args w, (callFunc 36 args).run Try.prog w = .ok (.enter 36 args) w := enters_of Try.func36 (by kernel_rfl) rfl
    have hcon := AnyQ.slices_SortFunc Try.sortB 4 Try.isAgg61 Try.sizeOf61 encB (fun _ => rfl) (fun x v hv => by simp [encB] at hv; rcases hv with rfl | rfl | rfl | rfl <;> rfl) (fun x y : Bb => byV x y) swo_bind 36 #[] g 0 cap xs.toArray w eg hcmp hH hgl (by omega)
    rw [hds] at hcon
    refine hcon.mono ?_
    rintro e w' ⟨rfl, d', m, os, hp, hs, rfl⟩
    obtain ⟨hps, -, hpp⟩ := hp
    have hds' : d'.size = n := by omega
    have hpp' : d'.toList.Perm xs := by
      have e1 : d'.extract 0 n = d' := by rw [← hds']; simp
      have e2 : xs.toArray.extract 0 n = xs.toArray := by rw [← hds]; simp
      rw [e1, e2] at hpp
      simpa using hpp
    have hfl : (flatB d'.toList).length = n * 4 := by rw [flatB_len]; simp [hds']
    refine ⟨rfl, d'.toList, hpp', ?_, ?_, ?_⟩
    · rw [List.pairwise_iff_getElem]
      intro i j hi hj hij
      have hi' : i < d'.size := by simpa using hi
      have hj' : j < d'.size := by simpa using hj
      have := hs i j (Nat.zero_le _) hij (by omega)
      rw [getElem!_pos d' i hi', getElem!_pos d' j hj'] at this
      simp only [ltOf, decide_eq_false_iff_not] at this
      have an := byV_anti d'[i] d'[j]
      simp only [Array.getElem_toList]
      omega
    · refine ⟨hfl, Or.inr ⟨g, cap, _, rfl, hB, heap_put (flatK encB 4 d') hg, hc1, hc2, by simp [putCells, hc3], ?_⟩⟩
      rw [flatK_B, ← hfl]
      exact take_put cur _ (by rw [hfl, hc3]; exact Nat.mul_le_mul_right 4 hc1)
    · exact hb.grown (grown_put (w := w) (g := g) (m := m) (os := os) (flatK encB 4 d')) hb.size (fun k hk => by simp at hk; omega)
end Go.Proofs.Ytmoalmpcobljkaa.Sb

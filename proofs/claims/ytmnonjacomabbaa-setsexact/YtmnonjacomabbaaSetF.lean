/- What slices.SortFunc by fact.Compare does with a list of facts that the call owns. -/
import Derived.Test.YtmnonjacomabbaaSetD
import Derived.Test.YtmnonjacomabbaaShelfS
namespace Go.Proofs.Ytmnonjacomabbaa
open Go.RowKit Go.Lib Go.Sort
open V

theorem swo_fact {α : Type} [Inhabited α] (l : α → Fc) : SWO (ltOf fun x y : α => cmpF (l x) (l y)) where
  irrefl x := by simp [ltOf, self_zero ord_fact]
  trans x y z h1 h2 := by
    simp only [ltOf, decide_eq_true_eq] at *
    have := ord_fact.trans _ _ _ ((lt_neg ord_fact).1 h1) ((lt_neg ord_fact).1 h2)
    omega
  ntrans x y z h1 h2 := by
    simp only [ltOf, decide_eq_false_iff_not] at *
    intro h3
    have h3' := (lt_neg ord_fact).1 h3
    have t1 := ord_fact.tri (l x) (l y)
    have a1 := ord_fact.anti (l x) (l y)
    by_cases hz : cmpF (l x) (l y) = 0
    · rw [(ord_fact.zero _ _).1 hz] at h3'
      omega
    · have : cmpF (l y) (l x) = -1 := by omega
      have := ord_fact.trans _ _ _ this h3'
      omega

theorem heap_put {w : World} {g m : Nat} {os : Array Obj} {cur : Array Value} {e : TypeId} {fr : Nat × Nat} (F : Array Value) (hb : w.heap[g]? = some (.cells cur e fr)) :
    (grow (putRow id (Sort.ahead w m) g 0 F) os).heap[g]? = some (.cells (putCells id 0 F cur) e fr) := by
  have hg : g < w.heap.size := (Array.getElem?_eq_some_iff.1 hb).1
  rw [heap_grow_old _ _ (by simpa using hg)]
  simp [putRow, mapBlock, Sort.ahead, Array.getElem?_modify, hb, onCells]
theorem grown_put {w : World} {g m : Nat} {os : Array Obj} (F : Array Value) : w.grownBy (grow (putRow id (Sort.ahead w m) g 0 F) os) (some g) := by
  refine ⟨rfl, rfl, rfl, by simp, fun k hk hne => ?_⟩
  rw [heap_grow_old _ _ (by simpa using hk)]
  have : g ≠ k := fun e => hne (by rw [e])
  simp [putRow, mapBlock, Sort.ahead, Array.getElem?_modify, this]
theorem take_put (cur : Array Value) (ts : List Value) (h : ts.length ≤ cur.size) : (putCells id 0 ts.toArray cur).toList.take ts.length = ts := by
  apply List.ext_getElem?
  intro j
  by_cases hj : j < ts.length
  · rw [List.getElem?_take_of_lt hj, Array.getElem?_toList]
    simp [putCells, hj, show j < cur.size by omega]
  · rw [List.getElem?_take_eq_none (by omega), List.getElem?_eq_none (by omega)]

abbrev In0 (w0 : World) : Type := {f : Fb // f.In w0 ∧ f.len ≤ 1000}
def encF {w0 : World} (x : In0 w0) : List Value := [.string x.1.n, .slice x.1.a x.1.len x.1.cap]

theorem flatK_F {w0 : World} [Inhabited (In0 w0)] (d : Array (In0 w0)) : flatK encF 2 d = (flatF (d.toList.map Subtype.val)).toArray := by
  apply Array.ext
  · simp [flatF_len]
  · intro t h1 h2
    have h1' : t < d.size * 2 := by simpa using h1
    have hi : t / 2 < d.size := by omega
    have e1 : (flatK encF 2 d)[t]! = (encF d[t / 2]!)[t % 2]! := get_flatK encF 2 d t h1'
    rw [getElem!_pos _ t h1] at e1
    rw [e1, getElem!_pos d _ hi]
    obtain ⟨h0, h3⟩ := flatF_get (d.toList.map Subtype.val) (t / 2) d[t / 2].1 (by simp [hi])
    have h2' : t < (flatF (d.toList.map Subtype.val)).length := by simpa using h2
    have e2 : (flatF (d.toList.map Subtype.val)).toArray[t] = (flatF (d.toList.map Subtype.val))[t] := by simp
    rw [e2]
    rcases Nat.mod_two_eq_zero_or_one t with hm | hm
    · rw [show t / 2 * 2 = t by omega, List.getElem?_eq_getElem h2'] at h0
      rw [hm, Option.some.inj h0]; rfl
    · rw [show t / 2 * 2 + 1 = t by omega, List.getElem?_eq_getElem h2'] at h3
      rw [hm, Option.some.inj h3]; rfl

set_option maxHeartbeats 1000000 in
theorem insNone (p : Option Addr) (cap : Nat) (fv : Value) (w : World) :
    Calls Try.prog 75 #[.slice p 0 cap, .int .i64 0, .int .i64 0, fv] w fun e w' => e = .returned (.tuple #[]) ∧ w' = w := by
  go_enter Try.func75, Try.ntmps75
  go_wp2
  refine wp_loop_rounds 1 ?_
  rw [rounds_succ]
  go_wp2
  go_end0
  exact ⟨rfl, rfl⟩
set_option maxHeartbeats 2000000 in
theorem pdqNone (p : Option Addr) (cap : Nat) (lim : Int) (fv : Value) (w : World) :
    Calls Try.prog 64 #[.slice p 0 cap, .int .i64 0, .int .i64 0, .int .i64 lim, fv] w fun e w' => e = .returned (.tuple #[]) ∧ w' = w := by
  go_enter Try.func64, Try.ntmps64
  go_wp2
  refine wp_loop_rounds 1 ?_
  rw [rounds_succ]
  go_wp2_with (go_at_call 75; refine (insNone _ _ _ _).mono ?_; rintro e w' ⟨rfl, rfl⟩)
  (try simp only [Exit.inBlock, Exit.then])
  refine bodyPost_ret (results_none rfl _ _ _) rfl ?_
  exact ⟨rfl, rfl⟩
set_option maxHeartbeats 1000000 in
theorem sortNone (p : Option Addr) (cap : Nat) (fv : Value) (w : World) :
    Calls Try.prog 48 #[.slice p 0 cap, fv] w fun e w' => e = .returned (.tuple #[]) ∧ w' = w := by
  have hl : ∀ W, Calls Try.prog 65 #[.int .u64 0] W fun e w' => e = .returned (.int .i64 (Lib.bitLen 0 : Nat)) ∧ w' = W := fun W => by
    have h := Any.bits_Len (SlLaysF0.n15.bits (P := Try.prog) (ρ := Try.sortF_ren) { Try.sortF with }) 0 W (by omega) (by omega)
    exact h
  go_enter Try.func48, Try.ntmps48
  go_wp2_with (first | (go_at_call 65; refine (hl _).mono ?_; rintro e w' ⟨rfl, rfl⟩) | (go_at_call 64; refine (pdqNone _ _ _ _ _).mono ?_; rintro e w' ⟨rfl, rfl⟩))
  go_end0
  exact ⟨rfl, rfl⟩

set_option maxHeartbeats 1000000 in
theorem sort_any (a : Option Addr) (n cap : Nat) (fs : List Fb) (w0 w : World) (hb : RowKit.Below w0.heap.size w0 w) (hown : w.ownsRow w0.heap.size 25 2 (.slice a n cap) n (flatF fs)) (hn : n = fs.length) (hin : ∀ f ∈ fs, f.In w0) (hL : ∀ f ∈ fs, f.len ≤ 1000) (h1k : n ≤ 1000) :
    Calls Try.prog 48 #[.slice a n cap, .func (.func 27) #[] #[]] w fun e w' => e = .returned (.tuple #[]) ∧ ∃ fs' : List Fb, fs'.Perm fs ∧ fs'.Pairwise (fun x y => cmpF x.l y.l ≤ 0) ∧ w'.ownsRow w0.heap.size 25 2 (.slice a n cap) n (flatF fs') ∧ RowKit.Below w0.heap.size w0 w' := by
  have hown0 := hown
  rcases hown.2 with ⟨hv, h0⟩ | ⟨g, cap', cur, hv, hB, hg, hc1, hc2, hc3, ht⟩
  · simp only [Value.slice.injEq] at hv
    obtain ⟨rfl, rfl, rfl⟩ := hv
    have he : fs = [] := List.eq_nil_of_length_eq_zero hn.symm
    subst he
    refine (sortNone none 0 _ w).mono ?_
    rintro e w' ⟨rfl, rfl⟩
    exact ⟨rfl, [], List.Perm.refl _, List.Pairwise.nil, hown0, hb⟩
  · simp only [Value.slice.injEq] at hv
    obtain ⟨rfl, -, rfl⟩ := hv
    have inh : Inhabited (In0 w0) := ⟨⟨⟨⟨#[]⟩, none, 0, 0, []⟩, ⟨Or.inl rfl, rfl⟩, by simp⟩⟩
    let d : Array (In0 w0) := (fs.attach.map fun x => (⟨x.1, hin x.1 x.2, hL x.1 x.2⟩ : In0 w0)).toArray
    have hd : d.toList.map Subtype.val = fs := by simp [d]
    have hds : d.size = n := by simp [d, hn]
    have hgl : g < w.heap.size := (Array.getElem?_eq_some_iff.1 hg).1
    have hlen : (flatF fs).length = n * 2 := hown0.1
    have hH : HoldsK encF 2 w g 0 d := by
      intro j hj
      rw [flatK_F, hd] at hj ⊢
      have hj' : j < (flatF fs).length := by simpa using hj
      refine ⟨?_, by rw [Nat.zero_add]; exact Lib.frozen_of_heap hg j⟩
      rw [Nat.zero_add, Lib.cell_of_heap hg, getElem!_pos _ j hj, List.getElem_toArray]
      have : (cur.toList.take (n * 2))[j]? = some (flatF fs)[j] := by rw [ht]; simp
      rw [List.getElem?_take_of_lt (by omega), Array.getElem?_toList] at this
      simpa using this
    have hcmp : CmpLays Try.prog 27 #[] encF 2 (fun x y : In0 w0 => cmpF x.1.l y.1.l) g 0 d.size w := by
      intro m os dk hdk x y
      have hbw : RowKit.Below w0.heap.size w0 (sortWorldK encF 2 w g 0 m dk os) := hb.grown (grown_put (w := w) (g := g) (m := m) (os := os) (flatK encF 2 dk)) hb.size (fun k hk => by simp at hk; omega)
      refine (fcompare_fg x.1 y.1 _ (x.2.1.on hbw) (y.2.1.on hbw) x.2.2).mono ?_
      rintro e w' ⟨rfl, hgr⟩
      exact ⟨rfl, hgr.out⟩
    have eg : ∀ args w, (callFunc 27 args).run Try.prog w = .ok (.enter 27 args) w := enters_of Try.func27 (by kernel_rfl) rfl
    have hcon := AnyQ.slices_SortFunc Try.sortF 2 Try.isAgg25 Try.sizeOf25 encF (fun _ => rfl) (fun x v hv => by simp [encF] at hv; rcases hv with rfl | rfl <;> rfl) (fun x y : In0 w0 => cmpF x.1.l y.1.l) (swo_fact (fun x : In0 w0 => x.1.l)) 27 #[] g 0 cap d w eg hcmp hH hgl (by omega)
    rw [hds] at hcon
    refine hcon.mono ?_
    rintro e w' ⟨rfl, d', m, os, hp, hs, rfl⟩
    obtain ⟨hps, -, hpp⟩ := hp
    have hds' : d'.size = n := by omega
    have hpp' : d'.toList.Perm d.toList := by
      have e1 : d'.extract 0 n = d' := by rw [← hds']; simp
      have e2 : d.extract 0 n = d := by rw [← hds]; simp
      rwa [e1, e2] at hpp
    have hfl : (flatF (d'.toList.map Subtype.val)).length = n * 2 := by rw [flatF_len]; simp [hds']
    refine ⟨rfl, d'.toList.map Subtype.val, ?_, ?_, ?_, ?_⟩
    · have := hpp'.map Subtype.val
      rwa [hd] at this
    · rw [List.pairwise_map, List.pairwise_iff_getElem]
      intro i j hi hj hij
      have hi' : i < d'.size := by simpa using hi
      have hj' : j < d'.size := by simpa using hj
      have := hs i j (Nat.zero_le _) hij (by omega)
      rw [getElem!_pos d' i hi', getElem!_pos d' j hj'] at this
      simp only [ltOf, decide_eq_false_iff_not] at this
      have an := ord_fact.anti d'[i].1.l d'[j].1.l
      simp only [Array.getElem_toList]
      omega
    · refine ⟨hfl, Or.inr ⟨g, cap, _, rfl, hB, heap_put (flatK encF 2 d') hg, hc1, hc2, by simp [putCells, hc3], ?_⟩⟩
      rw [flatK_F, ← hfl]
      exact take_put cur _ (by rw [hfl, hc3]; exact Nat.mul_le_mul_right 2 hc1)
    · exact hb.grown (grown_put (w := w) (g := g) (m := m) (os := os) (flatK encF 2 d')) hb.size (fun k hk => by simp at hk; omega)
end Go.Proofs.Ytmnonjacomabbaa

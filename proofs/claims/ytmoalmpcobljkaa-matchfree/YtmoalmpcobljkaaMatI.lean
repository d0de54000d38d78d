/- What MatchFree asks, in plain words; append where a region draws its order, with the place of what it tells. -/
import Derived.Test.YtmoalmpcobljkaaMatG
import Derived.Deep.RegionHeld3
namespace Go.Proofs.Ytmoalmpcobljkaa.Sb
open Go.RowKit
open V

/-- append at a step of a region that draws its order: where the new slice lies, too. -/
theorem step_append_at {P : Program} {w : World} {ops : Array Oper} {o : Oper} {a : Act} {K : Act → World → Prop} {Q : Exit → Act → World → Prop} {E : Prop} (hgd : o.guard = none) (s x : Operand) (t : TypeId)
    (ho : o.op = .call { callee := .builtin .append, args := #[s, x], argTypes := #[t, t] })
    (base : Nat) (e : TypeId) (i : TypeInfo) (z : Value) (size bytes : Nat) (ht : P.underlying t = some (.slice e)) (hi : P.info? e = some i) (hz : i.zero = some z)
    (hsize : i.size = size) (hby : i.bytes = bytes) (hzs : z.cells.size = size) (hsz : 0 < size)
    (v : Value) (n : Nat) (xs : List Value) (hs : a.eval s = v) (hown : w.ownsRow base e size v n xs)
    (ad : Addr) (m c : Nat) (news : List Value) (hx : a.eval x = .slice (some ad) m c) (hl : news.length = m * size) (hnews : ∀ j u, news[j]? = some u → w.cell? (ad.add j) = some u) (h1 : ∀ u ∈ news, u.oneCell' = true)
    (h63 : n + m ≤ maxLen) (hbytes : (n + m) * bytes ≤ 140737488355328) (hbase : base ≤ w.heap.size)
    (h : ∀ v' w', w'.ownsRow base e size v' (n + m) (xs ++ news) → w.grownBy w' v.ownBlock → (v'.ownBlock = v.ownBlock ∨ v'.ownBlock = some w.heap.size) → K (a.put o.dst v') w') :
    if Region.wanted o (yielded ops a.tmps) = true then Oper.wp P o a w K Q else E := by
  have hw : Region.wanted o (yielded ops a.tmps) = true := by simp [Region.wanted, hgd]
  rw [if_pos hw]
  obtain ⟨v', w', hr, h2, h3, _, h5⟩ := run_append_own_at (P := P) w base t o.type e i z size bytes ht hi hz hsize hby hzs hsz v n xs hown ad m c news hl hnews h1 h63 hbytes hbase
  unfold Oper.wp execOp
  simp only [ho, resolve, invoke, builtin, Sem.run_bind, Sem.run_pure, Result.andThen_ok, List.map_toArray, List.map_cons, List.map_nil, hs, hx, hr]
  exact h v' w' h2 h3 h5

def nmL : List ByteArray := [⟨#[65]⟩, ⟨#[66]⟩, ⟨#[67]⟩, ⟨#[68]⟩, ⟨#[69]⟩]
theorem nm_nodup : nmL.Nodup := by decide
theorem nm_var : ∀ n ∈ nmL, varB n.data.toList = true ∧ n.size ≠ 0 := by decide
theorem right_fact {f : Fb} (h : rightF f.l = true) : nameB f.n.data.toList = true := by
  simp only [rightF, Fb.l, Bool.and_eq_true] at h
  exact h.1
theorem free_right {f : Fb} {k : Nat} (h : rightF f.l = true) : rightA f.n (freeT (nmL.take k)) = true := by
  simp only [rightA, Bool.and_eq_true, decide_eq_true_eq, List.all_eq_true]
  refine ⟨right_fact h, ?_, fun t ht => ?_⟩
  · simp only [freeT, List.length_map, List.length_take]
    exact Nat.le_trans (Nat.min_le_right _ _) (by decide)
  · obtain ⟨n, hn, rfl⟩ := List.mem_map.1 ht
    obtain ⟨h1, h2⟩ := nm_var n (List.mem_of_mem_take hn)
    simp [rightT, h1, h2]
theorem fixed_right {f : Fb} (h : rightF f.l = true) : rightA f.n (fixedT (f.vs.map vv)) = true := by
  simp only [rightA, Bool.and_eq_true, decide_eq_true_eq, List.all_eq_true]
  refine ⟨right_fact h, ?_, fun t ht => ?_⟩
  · simp only [fixedT, List.length_map]; exact (right_vals h).1
  · obtain ⟨v, hv, rfl⟩ := List.mem_map.1 ht
    have := (right_vals h).2 v hv
    exact (if_pos (c := ((⟨#[]⟩ : ByteArray)).size = 0) rfl).trans this
/-- An atom of values: just that fact. -/
theorem fixed_one {f g : Fb} (hf : rightF f.l = true) (hg : rightF g.l = true) : oneR f.n (fixedT (f.vs.map vv)) g [] = ([], decide (f.l = g.l)) := by
  by_cases hn : f.n = g.n
  · by_cases hl : f.vs.length = g.vs.length
    · rw [one_yes (fixed_right hf) hg hn (by simpa [fixedT] using hl) rfl]
      unfold finR
      rw [fixed_mat _ _ (right_vals hg).2]
      by_cases e : f.vs.map vv = g.vs.map vv
      · rw [if_pos e, decide_eq_true (fl_iff.2 ⟨hn, e⟩)]
      · rw [if_neg e, decide_eq_false (fun h => e (fl_iff.1 h).2)]
    · rw [one_no4 (by simpa [fixedT] using hl), decide_eq_false (fun h => hl (by have := congrArg List.length (fl_iff.1 h).2; simpa using this))]
  · rw [one_no3 hn, decide_eq_false (fun h => hn (fl_iff.1 h).1)]
/-- One of unlike variables: each of its name and count. -/
theorem free_one {f g : Fb} (hf : rightF f.l = true) (hg : rightF g.l = true) : ∃ m, oneR f.n (freeT (nmL.take f.vs.length)) g [] = (m, decide (f.n = g.n) && decide (f.vs.length = g.vs.length)) ∧ listB m = true ∧ (f.n = g.n → f.vs.length = g.vs.length → ∀ i (h : i < g.vs.length) (k : i < nmL.length), getR m nmL[i] = (vv g.vs[i], true)) := by
  have h5 := (right_vals hf).1
  have hlen : (nmL.take f.vs.length).length = f.vs.length := by
    rw [List.length_take]; exact Nat.min_eq_left h5
  have hft : (freeT (nmL.take f.vs.length)).length = f.vs.length := by rw [freeT, List.length_map, hlen]
  by_cases hn : f.n = g.n
  · by_cases hl : f.vs.length = g.vs.length
    · have hnd : (nmL.take f.vs.length).Nodup := nm_nodup.sublist (List.take_sublist _ _)
      obtain ⟨m, hm⟩ := (free_mat (us := g.vs.map vv) hnd (fun n h => (nm_var n (List.mem_of_mem_take h)).1) (fun n h => (nm_var n (List.mem_of_mem_take h)).2) (right_vals hg).2 (by omega)).1 (by rw [hlen, List.length_map]; exact hl)
      have ht : ∀ t ∈ freeT (nmL.take f.vs.length), t.1.size ≠ 0 → varB t.1.data.toList = true := (right_terms (free_right (f := f) (k := f.vs.length) hf)).2.2
      refine ⟨m, ?_, mat_list rfl ht (right_vals hg).2 hm, fun _ _ i h k => ?_⟩
      · rw [one_yes (free_right hf) hg hn (by rw [hft]; exact hl) rfl, fin_some hm, decide_eq_true hn, decide_eq_true hl]; rfl
      · have hi : i < (freeT (nmL.take f.vs.length)).length := by omega
        have hget := mat_get rfl ht (right_vals hg).2 hm hi (by rw [List.length_map]; exact h)
        rw [free_at] at hget
        simp only [List.getElem_take, List.getElem_map] at hget
        exact getR_some (hget (nm_var _ (List.getElem_mem k)).2)
    · exact ⟨[], by rw [one_no4 (by rw [hft]; exact hl), decide_eq_false hl, Bool.and_false], rfl, fun _ h => absurd h hl⟩
  · exact ⟨[], by rw [one_no3 hn, decide_eq_false hn, Bool.false_and], rfl, fun h => absurd h hn⟩
end Go.Proofs.Ytmoalmpcobljkaa.Sb

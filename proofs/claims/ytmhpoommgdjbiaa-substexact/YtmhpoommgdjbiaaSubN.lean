/- What the document's Bind answers, of a right list. -/
import Derived.Test.YtmhpoommgdjbiaaSubY
namespace Go.Proofs.Ytmhpoommgdjbiaa
open Go.RowKit
open V

theorem ins_end {α : Type} {f : α → α → Int} {x : α} : ∀ {l : List α}, (∀ y ∈ l, ¬ f x y < 0) → insL f x l = l ++ [x]
  | [], _ => rfl
  | y :: r, h => by
    unfold insL
    rw [if_neg (h y (by simp)), ins_end (fun z hz => h z (by simp [hz]))]; rfl
theorem ins_here {α : Type} {f : α → α → Int} {x y : α} : ∀ {l : List α}, (∀ z ∈ l, ¬ f x z < 0) → f x y < 0 → insL f x (l ++ [y]) = (l ++ [x]) ++ [y]
  | [], _, hy => by simp [insL, hy]
  | z :: r, h, hy => by
    simp only [List.cons_append]
    unfold insL
    rw [if_neg (h z (by simp)), ins_here (fun z hz => h z (by simp [hz])) hy]
theorem ins_past {α : Type} {f : α → α → Int} {x y : α} : ∀ {l : List α}, (∃ z ∈ l, f x z < 0) → insL f x (l ++ [y]) = insL f x l ++ [y]
  | [], ⟨z, hz, _⟩ => by cases hz
  | z :: r, h => by
    simp only [List.cons_append]
    unfold insL
    split
    · rfl
    · rename_i hn
      rw [ins_past (l := r) (by
        obtain ⟨u, hu, h1⟩ := h
        rcases List.mem_cons.1 hu with rfl | hu
        · exact absurd h1 hn
        · exact ⟨u, hu, h1⟩)]
      rfl

/-- A name that no other has: its place is told by the names alone. -/
theorem cmp_by {x y : Bb} (h : x.1 ≠ y.1) : cmpB x y = byV x y := by
  have : byV x y ≠ 0 := fun e => h (byV_zero.1 e)
  simp [cmpB, this]
theorem bind_ins {xs : List Bb} {x : Bb} (h : listB xs = true) (hr : rightBd x = true) (hn : ∀ y ∈ xs, y.1 ≠ x.1) (hl : xs.length < 100) : bothR xs [x] = (insL cmpB x xs, true) := by
  have hx : x ∉ xs := fun hm => hn x hm rfl
  have hR := rise_ins ord_bind x (list_rise h) hx
  have e : unL xs [x] = insL cmpB x xs := un_eq hR (fun y => by rw [mem_ins, List.mem_singleton, Or.comm])
  have hL : listB (insL cmpB x xs) = true := list_of hR (by rw [len_ins]; omega) (fun y hy => by
    rcases (mem_ins x y xs).1 hy with rfl | hy
    · exact hr
    · exact list_right h hy) (fun y hy z hz e2 => by
    rcases (mem_ins x y xs).1 hy with h1 | h1
    · rcases (mem_ins x z xs).1 hz with h2 | h2
      · rw [h1, h2]
      · rw [h1] at e2; exact absurd e2.symm (hn z h2)
    · rcases (mem_ins x z xs).1 hz with h2 | h2
      · rw [h2] at e2; exact absurd e2 (hn y h1)
      · exact list_one h h1 h2 e2)
  rw [both_t h (list_single hr) (by rw [e]; exact hL), e]
theorem bind_full {xs : List Bb} {x : Bb} (h : listB xs = true) (hn : ∀ y ∈ xs, y.1 ≠ x.1) (hl : 100 ≤ xs.length) : bothR xs [x] = ([], false) := by
  refine both_f (fun ⟨_, _, h3⟩ => ?_)
  have hx : x ∉ xs := fun hm => hn x hm rfl
  have e : unL xs [x] = insL cmpB x xs := un_eq (rise_ins ord_bind x (list_rise h) hx) (fun y => by rw [mem_ins, List.mem_singleton, Or.comm])
  have := list_len h3
  rw [e, len_ins] at this
  omega
theorem bind_has {xs : List Bb} {n : ByteArray} {v y : Vv} (h : listB xs = true) (hr : rightBd (n, v) = true) (hg : getL xs n = some y) : bothR xs [(n, v)] = if y = v then (xs, true) else ([], false) := by
  have hm := get_mem hg
  split
  · rename_i e
    subst e
    have e : unL xs [(n, y)] = xs := un_eq (list_rise h) (fun z => ⟨Or.inl, fun hz => by
      rcases hz with hz | hz
      · exact hz
      · rw [List.mem_singleton.1 hz]; exact hm⟩)
    rw [both_t h (list_single hr) (by rw [e]; exact h), e]
  · rename_i e
    refine both_f (fun ⟨_, _, h3⟩ => e ?_)
    have := list_one h3 (x := (n, y)) (y := (n, v)) (mem_un.2 (Or.inl hm)) (mem_un.2 (Or.inr (by simp))) rfl
    exact (Prod.mk.inj this).2

theorem cells_new {w : World} {b : Nat} (cs : List Value) (T : TypeId) (hb : w.heap.size = b) : ∀ (j : Nat) (u : Value), cs[j]? = some u → (w.alloc (.cells cs.toArray T)).cell? ((⟨b, 0, none⟩ : Addr).add j) = some u := by
  subst hb
  intro j u hu
  have hk : (w.alloc (.cells cs.toArray T)).heap[w.heap.size]? = some (.cells cs.toArray T) := heap_alloc_new w _
  rw [WideShapes.add_plain, Lib.cell_of_heap hk]
  simpa using hu

/-- What has been put out: none of x yet, or x in its place. -/
def Out (x : Bb) (xs out : List Bb) (k : Nat) (q : Bool) : Prop :=
  (q = false → out = xs.take k ∧ ∀ y ∈ xs.take k, ¬ cmpB x y < 0) ∧ (q = true → out = insL cmpB x (xs.take k) ∧ ∃ y ∈ xs.take k, cmpB x y < 0)
theorem out_zero (x : Bb) (xs : List Bb) : Out x xs [] 0 false := ⟨fun _ => ⟨by simp, by simp⟩, fun h => by cases h⟩
theorem out_past {x : Bb} {xs out : List Bb} {k : Nat} (h : Out x xs out k true) (hk : k < xs.length) : Out x xs (out ++ [xs[k]]) (k + 1) true := by
  refine ⟨(fun h => by cases h), fun _ => ?_⟩
  obtain ⟨h1, y, hy, h2⟩ := h.2 rfl
  rw [List.take_succ_eq_append_getElem hk]
  exact ⟨by rw [ins_past ⟨y, hy, h2⟩, h1], y, List.mem_append.2 (Or.inl hy), h2⟩
theorem out_here {x : Bb} {xs out : List Bb} {k : Nat} (h : Out x xs out k false) (hk : k < xs.length) (hc : cmpB x xs[k] < 0) : Out x xs ((out ++ [x]) ++ [xs[k]]) (k + 1) true := by
  refine ⟨(fun h => by cases h), fun _ => ?_⟩
  obtain ⟨h1, h2⟩ := h.1 rfl
  rw [List.take_succ_eq_append_getElem hk]
  exact ⟨by rw [ins_here h2 hc, h1], xs[k], List.mem_append.2 (Or.inr (List.mem_singleton.2 rfl)), hc⟩
theorem out_not {x : Bb} {xs out : List Bb} {k : Nat} (h : Out x xs out k false) (hk : k < xs.length) (hc : ¬ cmpB x xs[k] < 0) : Out x xs (out ++ [xs[k]]) (k + 1) false := by
  refine ⟨fun _ => ?_, fun h => by cases h⟩
  obtain ⟨h1, h2⟩ := h.1 rfl
  rw [List.take_succ_eq_append_getElem hk, h1]
  refine ⟨rfl, fun y hy => ?_⟩
  rcases List.mem_append.1 hy with hy | hy
  · exact h2 y hy
  · rw [List.mem_singleton.1 hy]; exact hc
theorem out_end {x : Bb} {xs out : List Bb} {k : Nat} (hk : xs.length ≤ k) : (Out x xs out k true → out = insL cmpB x xs) ∧ (Out x xs out k false → out ++ [x] = insL cmpB x xs) := by
  constructor
  · intro h
    have := (h.2 rfl).1
    rwa [List.take_of_length_le hk] at this
  · intro h
    obtain ⟨h1, h2⟩ := h.1 rfl
    rw [List.take_of_length_le hk] at h1 h2
    rw [ins_end h2, h1]

set_option maxHeartbeats 4000000 in
set_option maxRecDepth 20000 in
theorem refBind_any (a : Option Addr) (len cap : Nat) (xs us : List Bb) (nm : ByteArray) (v : Vv) (ok : Bool) (w : World) (hx : Lies w a len cap xs) (hL : ∀ x ∈ xs, Lt x) (hn : nm.size ≤ 200) (hs : listB xs = true) (hr : rightBd (nm, v) = true) (H : Hid (bothR xs [(nm, v)] = (us, ok))) :
    Calls Try.prog 19 #[.slice a len cap, .string nm, .agg #[.int .i64 v.1, .int .i64 v.2.1, .string v.2.2]] w fun e w' => ∃ (q : Option Addr) (m c : Nat), e = .returned (.tuple #[.slice q m c, .bool ok]) ∧ (ok = true → Lies w' q m c us) ∧ Below w.heap.size w w' := by
  obtain ⟨ti, hi, hz0, hz1, hz2⟩ := info_parts infoB
  have hb0 : Below w.heap.size w (w.alloc (bxV v)) := (Below.refl _ _).alloc (Nat.le_refl _) _
  obtain ⟨a0, a1, a2⟩ := trip_of (heap_alloc_new w (bxV v))
  have hx0 := hx.on hb0
  have h100 := list_len hs
  have hl100 : len ≤ 100 := by rw [hx.len]; exact h100
  obtain ⟨⟨gv, gq⟩, hg⟩ : ∃ r, getR xs nm = r := ⟨_, rfl⟩
  have HG := hide hg
  have hc1 := refGet_any a len cap xs nm gv gq _ hx0.row hx0.le hx0.ge (by omega) HG
  have hl1 : len ≤ xs.length := hx.le
  have hl2 : xs.length ≤ len := hx.ge
  have HS := hide hs
  have HR := hide hr
  clear hg hs hr h100
  go_enter Try.func19, Try.ntmps19
  go_wp2_with fail
  refine hc1.mono ?_
  rintro e w1 ⟨rfl, hb1⟩
  have hbx : Below w1.heap.size w1 (w1.alloc (bxV gv)) := (Below.refl _ _).alloc (Nat.le_refl _) _
  replace a0 := cell_on hbx (cell_on hb1 a0)
  replace a1 := cell_on hbx (cell_on hb1 a1)
  replace a2 := cell_on hbx (cell_on hb1 a2)
  obtain ⟨b0, b1, b2⟩ := trip_of (heap_alloc_new w1 (bxV gv))
  have hw1 := bt (bt hb0 hb1) hbx
  have hx1 := hx.on hw1
  clear hc1 hb0 hb1 hbx hx0
  cases gq with
  | true =>
    have hgl : getL xs nm = some gv := by
      have := unhide HG
      unfold getR at this
      split at this
      · rename_i u hu; simp only [Prod.mk.injEq, and_true] at this; rw [hu, this]
      · simp at this
    have hE := eqV0 gv v
    have hbb := bind_has (unhide HS) (unhide HR) hgl
    have HB : Hid ((if gv = v then (xs, true) else (([] : List Bb), false)) = (us, ok)) := hide (by rw [← hbb]; exact unhide H)
    by_cases hgv : gv = v
    · rw [decide_eq_true hgv] at hE
      have HB2 : Hid (xs = us ∧ true = ok) := by
        have := unhide HB
        rw [if_pos hgv] at this
        exact hide (by simpa using this)
      obtain ⟨hu, ho⟩ := unhide HB2
      subst hu ho
      clear HB HB2 hbb hgl hgv H HG
      go_wp2_with fail
      go_quiet (fail)
      have hw2 := below_drewN hw1 nq
      have hx2 : Lies ((w1.alloc (bxV gv)).drewN nq) a len cap xs := hx.on hw2
      clear a0 a1 a2 b0 b1 b2 hE
      go_wp2_with fail
      go_ret2
      exact ⟨a, len, cap, rfl, hx2, hw2⟩
    · rw [decide_eq_false hgv] at hE
      have HB2 : Hid ([] = us ∧ false = ok) := by
        have := unhide HB
        rw [if_neg hgv] at this
        exact hide (by simpa using this)
      obtain ⟨hu, ho⟩ := unhide HB2
      subst hu ho
      clear HB HB2 hbb hgl hgv H HG
      go_wp2_with fail
      go_quiet (fail)
      have hw2 := below_drewN hw1 nq
      clear a0 a1 a2 b0 b1 b2 hE
      go_wp2_with fail
      go_ret2
      exact ⟨a, len, cap, rfl, (by intro h; cases h), hw2⟩
  | false =>
    have hne : ∀ y ∈ xs, y.1 ≠ nm := by
      intro y hy e
      have := unhide HG
      unfold getR at this
      split at this
      · simp at this
      · rename_i hu
        have h2 := get_some (unhide HS) (n := y.1) (v := y.2) hy
        rw [e, hu] at h2
        cases h2
    have HNE := hide hne
    clear hne HG b0 b1 b2
    by_cases hfull : 100 ≤ len
    · have HB2 : Hid ([] = us ∧ false = ok) := by
        have := unhide H
        rw [bind_full (unhide HS) (fun y hy => unhide HNE y hy) (by omega)] at this
        exact hide (by simpa using this)
      obtain ⟨hu, ho⟩ := unhide HB2
      subst hu ho
      have d100 : decide ((100 : Int) ≤ (len : Int)) = true := decide_eq_true (by omega)
      clear HB2 H a0 a1 a2
      go_wp2_with fail
      go_ret2
      exact ⟨none, 0, 0, rfl, (by intro h; cases h), hw1⟩
    · have HB2 : Hid (insL cmpB (nm, v) xs = us ∧ true = ok) := by
        have := unhide H
        rw [bind_ins (unhide HS) (unhide HR) (fun y hy => unhide HNE y hy) (by omega)] at this
        exact hide (by simpa using this)
      obtain ⟨hu, ho⟩ := unhide HB2
      subst ho
      have HU := hide hu
      have d100 : decide ((100 : Int) ≤ (len : Int)) = false := decide_eq_false (by omega)
      clear HB2 H hu
      go_wp2_with fail
      generalize w1.alloc (.cells #[.int .i64 gv.1, .int .i64 gv.2.1, .string gv.2.2] 24) = W at a0 a1 a2 hw1 hx1
      go_loopw [10, 11, 12] (fun o q i wr => ∃ (k n c : Nat) (qa : Option Addr) (bq : Bool) (out : List Bb), k ≤ len ∧ i = .int .i64 k ∧ q = .bool bq ∧ o = .slice qa n c ∧ n ≤ k + 1 ∧ wr.ownsRow W.heap.size 39 4 (.slice qa n c) n (flatB out) ∧ Hid (Out (nm, v) xs out k bq) ∧ Below W.heap.size W wr) (fun _ _ i _ => len - (intOf i).toNat)
      case atStart => exact ⟨0, 0, 0, none, false, [], Nat.zero_le _, rfl, rfl, rfl, by omega, World.ownsRow_nil _ _ _ _, hide (out_zero _ _), Below.refl _ _⟩
      case round =>
        obtain ⟨k, n, c, qa, bq, out, hk, rfl, rfl, rfl, hnk, hown, HO, hbw⟩ := hrel
        have hww := bt hw1 hbw
        by_cases hlt : k < len
        · obtain ⟨b, o, ha, hbl, d0, d1, d2, d3⟩ := hx1.row.up (show k < xs.length by omega)
          subst ha
          have c0 := cell_on hbw d0
          have c1 := cell_on hbw d1
          have c2 := cell_on hbw d2
          have c3 := cell_on hbw d3
          have hbl0 := cell_lt c0
          have lx := hL xs[k] (List.getElem_mem (by omega))
          have e2 : (k : Int) < (len : Int) := by omega
          cases bq with
          | true =>
            have HO' := hide (out_past (unhide HO) (show k < xs.length by omega))
            have HF := hide (flatB_app out [xs[k]])
            generalize xs[k] = x at c0 c1 c2 c3 d0 d1 d2 d3 lx HO' HF
            go_wp2_with (at_builtin; refine wpList_append_own_wide _ rfl _ _ 22 rfl W.heap.size 39 ti (.agg #[.string ⟨#[]⟩, .int .i64 0, .int .i64 0, .string ⟨#[]⟩]) 4 48 Try.underlying22 hi hz0 hz1 hz2 rfl (by decide) _ n (flatB out) rfl (hown.alloc _) ⟨wr.heap.size, 0, none⟩ 1 1 [.string x.1, .int .i64 x.2.1, .int .i64 x.2.2.1, .string x.2.2.2] rfl rfl ?c1 ?c2 ?c3 ?c4 ?c5 ?_)
            case c1 => exact cells_new [.string x.1, .int .i64 x.2.1, .int .i64 x.2.2.1, .string x.2.2.2] 39 rfl
            case c2 => intro u hu; simp at hu; rcases hu with rfl | rfl | rfl | rfl <;> rfl
            case c3 => unfold maxLen; omega
            case c4 => omega
            case c5 => have := hbw.size; simp; omega
            intro v' w3 hownw3 hgrow hnil
            obtain ⟨qaw3, cw3, rfl⟩ := own_slice hownw3
            have hbww3 := (hbw.alloc hbw.size (.cells #[.string x.1, .int .i64 x.2.1, .int .i64 x.2.2.1, .string x.2.2.2] 39)).grown hgrow (by have := hbw.size; simp; omega) (fun m hm => (hown.lt m hm).1)
            clear hgrow hnil
            have HE : Hid (flatB out ++ [.string x.1, .int .i64 x.2.1, .int .i64 x.2.2.1, .string x.2.2.2] = flatB (out ++ [x])) := hide (unhide HF).symm
            rw [unhide HE] at hownw3
            clear c0 c1 c2 c3 HF HE
            go_wp2_with fail
            go_roundw
            case rel => exact ⟨k + 1, n + 1, cw3, qaw3, true, out ++ [x], by omega, by go_num, rfl, rfl, by omega, hownw3, HO', hbww3⟩
            case measure => simp [intOf]; omega
          | false =>
            have hcb : cmpB (nm, v) xs[k] = byV (nm, v) xs[k] := cmp_by (fun e => unhide HNE xs[k] (List.getElem_mem (by omega)) e.symm)
            by_cases hz : cmpB (nm, v) xs[k] < 0
            · have HO' := hide (out_here (unhide HO) (show k < xs.length by omega) hz)
              have hn1 : n ≤ k := by
                have h1 := hown.1
                rw [flatB_len, ((unhide HO).1 rfl).1, List.length_take] at h1
                omega
              have HF := hide (flatB_app (out ++ [(nm, v)]) [xs[k]])
              rw [hcb] at hz
              obtain ⟨d, hd⟩ : ∃ d, byV (nm, v) xs[k] = d := ⟨_, rfl⟩
              rw [hd] at hz
              have HD := hide hd
              clear hd hcb
              generalize xs[k] = x at c0 c1 c2 c3 d0 d1 d2 d3 lx HO' HD HF
              have hs1 := refStr_x (nm, v) x d wr hn lx.1 HD
              have b0 := cell_on hbw a0
              have b1 := cell_on hbw a1
              have b2 := cell_on hbw a2
              have hzd : decide (d < 0) = true := decide_eq_true hz
              go_wp2_with fail
              refine hs1.mono ?_
              rintro e w2 ⟨rfl, hb2⟩
              replace c0 := cell_on hb2 c0
              replace c1 := cell_on hb2 c1
              replace c2 := cell_on hb2 c2
              replace c3 := cell_on hb2 c3
              replace b0 := cell_on hb2 b0
              replace b1 := cell_on hb2 b1
              replace b2 := cell_on hb2 b2
              have hown2 := own_on hown hb2
              have hbw2 := bt hbw hb2
              have hbl2 := cell_lt c0
              have hbl3 := cell_lt b0
              clear hs1 hown hbw hb2 hww
              go_wp2_with (at_builtin; refine wpList_append_own_wide _ rfl _ _ 22 rfl W.heap.size 39 ti (.agg #[.string ⟨#[]⟩, .int .i64 0, .int .i64 0, .string ⟨#[]⟩]) 4 48 Try.underlying22 hi hz0 hz1 hz2 rfl (by decide) _ n (flatB out) rfl (hown2.alloc _) ⟨w2.heap.size, 0, none⟩ 1 1 [.string nm, .int .i64 v.1, .int .i64 v.2.1, .string v.2.2] rfl rfl ?c1 ?c2 ?c3 ?c4 ?c5 ?_)
              case c1 => exact cells_new [.string nm, .int .i64 v.1, .int .i64 v.2.1, .string v.2.2] 39 rfl
              case c2 => intro u hu; simp at hu; rcases hu with rfl | rfl | rfl | rfl <;> rfl
              case c3 => unfold maxLen; omega
              case c4 => omega
              case c5 => have := hbw2.size; simp; omega
              intro v' w3 hownw3 hgrow hnil
              obtain ⟨qaw3, cw3, rfl⟩ := own_slice hownw3
              have hbww3 := (hbw2.alloc hbw2.size (.cells #[.string nm, .int .i64 v.1, .int .i64 v.2.1, .string v.2.2] 39)).grown hgrow (by have := hbw2.size; simp; omega) (fun m hm => (hown2.lt m hm).1)
              clear hgrow hnil
              have HE : Hid (flatB out ++ [.string nm, .int .i64 v.1, .int .i64 v.2.1, .string v.2.2] = flatB (out ++ [(nm, v)])) := hide (by rw [flatB_app]; rfl)
              rw [unhide HE] at hownw3
              have i0 := cell_on hbww3 d0
              have i1 := cell_on hbww3 d1
              have i2 := cell_on hbww3 d2
              have i3 := cell_on hbww3 d3
              have hbl4 := cell_lt i0
              clear c0 c1 c2 c3 HE hown2 hbw2 b0 b1 b2
              go_wp2_with (at_builtin; refine wpList_append_own_wide _ rfl _ _ 22 rfl W.heap.size 39 ti (.agg #[.string ⟨#[]⟩, .int .i64 0, .int .i64 0, .string ⟨#[]⟩]) 4 48 Try.underlying22 hi hz0 hz1 hz2 rfl (by decide) _ (n + 1) (flatB (out ++ [(nm, v)])) rfl (hownw3.alloc _) ⟨w3.heap.size, 0, none⟩ 1 1 [.string x.1, .int .i64 x.2.1, .int .i64 x.2.2.1, .string x.2.2.2] rfl rfl ?c1 ?c2 ?c3 ?c4 ?c5 ?_)
              case c1 => exact cells_new [.string x.1, .int .i64 x.2.1, .int .i64 x.2.2.1, .string x.2.2.2] 39 rfl
              case c2 => intro u hu; simp at hu; rcases hu with rfl | rfl | rfl | rfl <;> rfl
              case c3 => unfold maxLen; omega
              case c4 => omega
              case c5 => have := hbww3.size; simp; omega
              intro v' w4 hownw4 hgrow hnil
              obtain ⟨qaw4, cw4, rfl⟩ := own_slice hownw4
              have hbww4 := (hbww3.alloc hbww3.size (.cells #[.string x.1, .int .i64 x.2.1, .int .i64 x.2.2.1, .string x.2.2.2] 39)).grown hgrow (by have := hbww3.size; simp; omega) (fun m hm => (hownw3.lt m hm).1)
              clear hgrow hnil
              have HE : Hid (flatB (out ++ [(nm, v)]) ++ [.string x.1, .int .i64 x.2.1, .int .i64 x.2.2.1, .string x.2.2.2] = flatB ((out ++ [(nm, v)]) ++ [x])) := hide (unhide HF).symm
              rw [unhide HE] at hownw4
              clear i0 i1 i2 i3 HF HE hownw3 hbww3
              go_wp2_with fail
              go_roundw
              case rel => exact ⟨k + 1, n + 1 + 1, cw4, qaw4, true, (out ++ [(nm, v)]) ++ [x], by omega, by go_num, rfl, rfl, by omega, hownw4, HO', hbww4⟩
              case measure => simp [intOf]; omega
            · have HO' := hide (out_not (unhide HO) (show k < xs.length by omega) hz)
              have HF := hide (flatB_app out [xs[k]])
              rw [hcb] at hz
              obtain ⟨d, hd⟩ : ∃ d, byV (nm, v) xs[k] = d := ⟨_, rfl⟩
              rw [hd] at hz
              have HD := hide hd
              clear hd hcb
              generalize xs[k] = x at c0 c1 c2 c3 d0 d1 d2 d3 lx HO' HD HF
              have hs1 := refStr_x (nm, v) x d wr hn lx.1 HD
              have b0 := cell_on hbw a0
              have b1 := cell_on hbw a1
              have b2 := cell_on hbw a2
              have hzd : decide (d < 0) = false := decide_eq_false hz
              go_wp2_with fail
              refine hs1.mono ?_
              rintro e w2 ⟨rfl, hb2⟩
              replace c0 := cell_on hb2 c0
              replace c1 := cell_on hb2 c1
              replace c2 := cell_on hb2 c2
              replace c3 := cell_on hb2 c3
              replace b0 := cell_on hb2 b0
              replace b1 := cell_on hb2 b1
              replace b2 := cell_on hb2 b2
              have hown2 := own_on hown hb2
              have hbw2 := bt hbw hb2
              have hbl2 := cell_lt c0
              have hbl3 := cell_lt b0
              clear hs1 hown hbw hb2 hww
              go_wp2_with (at_builtin; refine wpList_append_own_wide _ rfl _ _ 22 rfl W.heap.size 39 ti (.agg #[.string ⟨#[]⟩, .int .i64 0, .int .i64 0, .string ⟨#[]⟩]) 4 48 Try.underlying22 hi hz0 hz1 hz2 rfl (by decide) _ n (flatB out) rfl (hown2.alloc _) ⟨w2.heap.size, 0, none⟩ 1 1 [.string x.1, .int .i64 x.2.1, .int .i64 x.2.2.1, .string x.2.2.2] rfl rfl ?c1 ?c2 ?c3 ?c4 ?c5 ?_)
              case c1 => exact cells_new [.string x.1, .int .i64 x.2.1, .int .i64 x.2.2.1, .string x.2.2.2] 39 rfl
              case c2 => intro u hu; simp at hu; rcases hu with rfl | rfl | rfl | rfl <;> rfl
              case c3 => unfold maxLen; omega
              case c4 => omega
              case c5 => have := hbw2.size; simp; omega
              intro v' w3 hownw3 hgrow hnil
              obtain ⟨qaw3, cw3, rfl⟩ := own_slice hownw3
              have hbww3 := (hbw2.alloc hbw2.size (.cells #[.string x.1, .int .i64 x.2.1, .int .i64 x.2.2.1, .string x.2.2.2] 39)).grown hgrow (by have := hbw2.size; simp; omega) (fun m hm => (hown2.lt m hm).1)
              clear hgrow hnil
              have HE : Hid (flatB out ++ [.string x.1, .int .i64 x.2.1, .int .i64 x.2.2.1, .string x.2.2.2] = flatB (out ++ [x])) := hide (unhide HF).symm
              rw [unhide HE] at hownw3
              clear c0 c1 c2 c3 HF HE hown2 hbw2 b0 b1 b2
              go_wp2_with fail
              go_roundw
              case rel => exact ⟨k + 1, n + 1, cw3, qaw3, false, out ++ [x], by omega, by go_num, rfl, rfl, by omega, hownw3, HO', hbww3⟩
              case measure => simp [intOf]; omega
        · cases bq with
          | true =>
            have he := (out_end (x := (nm, v)) (xs := xs) (out := out) (k := k) (by omega)).1 (unhide HO)
            rw [unhide HU] at he
            subst he
            have hlies := lies_own hown
            clear hown
            go_wp2_with fail
            go_ret2
            exact ⟨qa, n, c, rfl, hlies, hww⟩
          | false =>
            have he := (out_end (x := (nm, v)) (xs := xs) (out := out) (k := k) (by omega)).2 (unhide HO)
            rw [unhide HU] at he
            have HF := hide (flatB_app out [(nm, v)])
            have b0 := cell_on hbw a0
            have b1 := cell_on hbw a1
            have b2 := cell_on hbw a2
            have hbl3 := cell_lt b0
            go_wp2_with (at_builtin; refine wpList_append_own_wide _ rfl _ _ 22 rfl W.heap.size 39 ti (.agg #[.string ⟨#[]⟩, .int .i64 0, .int .i64 0, .string ⟨#[]⟩]) 4 48 Try.underlying22 hi hz0 hz1 hz2 rfl (by decide) _ n (flatB out) rfl (hown.alloc _) ⟨wr.heap.size, 0, none⟩ 1 1 [.string nm, .int .i64 v.1, .int .i64 v.2.1, .string v.2.2] rfl rfl ?c1 ?c2 ?c3 ?c4 ?c5 ?_)
            case c1 => exact cells_new [.string nm, .int .i64 v.1, .int .i64 v.2.1, .string v.2.2] 39 rfl
            case c2 => intro u hu; simp at hu; rcases hu with rfl | rfl | rfl | rfl <;> rfl
            case c3 => unfold maxLen; omega
            case c4 => omega
            case c5 => have := hbw.size; simp; omega
            intro v' w3 hownw3 hgrow hnil
            obtain ⟨qaw3, cw3, rfl⟩ := own_slice hownw3
            have hbww3 := (hbw.alloc hbw.size (.cells #[.string nm, .int .i64 v.1, .int .i64 v.2.1, .string v.2.2] 39)).grown hgrow (by have := hbw.size; simp; omega) (fun m hm => (hown.lt m hm).1)
            clear hgrow hnil
            have HE : Hid (flatB out ++ [.string nm, .int .i64 v.1, .int .i64 v.2.1, .string v.2.2] = flatB us) := hide (by rw [← he, unhide HF]; rfl)
            rw [unhide HE] at hownw3
            have hlies := lies_own hownw3
            have hww3 := bt hw1 hbww3
            clear b0 b1 b2 HF HE hownw3 hbww3 hown he
            go_wp2_with fail
            go_ret2
            exact ⟨_, _, _, rfl, hlies, hww3⟩
end Go.Proofs.Ytmhpoommgdjbiaa

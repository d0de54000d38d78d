/- What slices.BinarySearchFunc and sets.around answer. -/
import Derived.Test.YtmnonjacomabbaaSetG
namespace Go.Proofs.Ytmnonjacomabbaa
open Go.RowKit
open V

/-- fact.Compare, the answer a letter, with what it leaves as it was. -/
theorem compare_xk (f g : Fb) (x : Int) (w : World) (hf : f.In w) (hg : g.In w) (h20 : f.len ≤ 1000) (H : Hid (cmpF f.l g.l = x)) :
    Calls Try.prog 27 #[.agg #[.string f.n, .slice f.a f.len f.cap], .agg #[.string g.n, .slice g.a g.len g.cap]] w fun e w' => e = .returned (.int .i64 x) ∧ Below w.heap.size w w' ∧ (∀ b o v, w.cell? ⟨b, o, none⟩ = some v → w'.cell? ⟨b, o, none⟩ = some v) ∧ (∀ f : Fb, f.In w → f.In w') := by
  refine (compare_x f g x w hf hg h20 H).mono ?_
  rintro e w' ⟨rfl, hb⟩
  exact ⟨rfl, hb, fun b o v h => cell_on hb h, fun f h => h.on hb⟩

/-- The place of f in a rising list: all ahead of it are less, none from it on is. -/
def Place (fs : List Fb) (f : Fb) (p : Nat) : Prop := p ≤ fs.length ∧ (∀ i (h : i < fs.length), i < p → cmpF fs[i].l f.l < 0) ∧ (∀ i (h : i < fs.length), p ≤ i → 0 ≤ cmpF fs[i].l f.l)

theorem rise_up {fs : List Fb} {f : Fb} {h : Nat} (hR : Rise cmpF (fs.map Fb.l)) (hh : h < fs.length) (hz : cmpF fs[h].l f.l < 0) : ∀ t (ht : t < fs.length), t < h + 1 → cmpF fs[t].l f.l < 0 := by
  intro t ht hth
  by_cases e : t = h
  · subst e; exact hz
  · have h1 := (List.pairwise_iff_getElem.1 hR) t h (by simpa using ht) (by simpa using hh) (by omega)
    simp only [List.getElem_map] at h1
    have := ord_fact.trans _ _ _ h1 ((lt_neg ord_fact).1 hz)
    omega
theorem rise_dn {fs : List Fb} {f : Fb} {h : Nat} (hR : Rise cmpF (fs.map Fb.l)) (hh : h < fs.length) (hz : 0 ≤ cmpF fs[h].l f.l) : ∀ t (ht : t < fs.length), h ≤ t → 0 ≤ cmpF fs[t].l f.l := by
  intro t ht hth
  by_cases e : t = h
  · subst e; exact hz
  · have h1 := (List.pairwise_iff_getElem.1 hR) h t (by simpa using hh) (by simpa using ht) (by omega)
    simp only [List.getElem_map] at h1
    rcases Int.lt_or_le (cmpF fs[t].l f.l) 0 with hc | hc
    · have := ord_fact.trans _ _ _ h1 ((lt_neg ord_fact).1 hc)
      omega
    · exact hc
theorem place_mem {fs : List Fb} {f : Fb} {p : Nat} (hp : p < fs.length) (hP : Place fs f p) (hR : Rise cmpF (fs.map Fb.l)) : (f.l ∈ fs.map Fb.l) ↔ cmpF fs[p].l f.l = 0 := by
  constructor
  · intro h
    obtain ⟨g, hg, e⟩ := List.mem_map.1 h
    obtain ⟨t, ht, rfl⟩ := List.getElem_of_mem hg
    have hz : cmpF fs[t].l f.l = 0 := by rw [e]; exact self_zero ord_fact _
    have h1 : p ≤ t := by
      rcases Nat.lt_or_ge t p with hc | hc
      · have := hP.2.1 t ht hc; omega
      · exact hc
    by_cases et : t = p
    · subst et; exact hz
    · have h2 := (List.pairwise_iff_getElem.1 hR) p t (by simpa using hp) (by simpa using ht) (by omega)
      simp only [List.getElem_map] at h2
      rw [e] at h2
      have := hP.2.2 p hp (Nat.le_refl _)
      omega
  · intro h
    rw [← (ord_fact.zero _ _).1 h]
    exact List.mem_map.2 ⟨fs[p], List.getElem_mem hp, rfl⟩
theorem place_end {fs : List Fb} {f : Fb} {p : Nat} (hp : fs.length ≤ p) (hP : Place fs f p) : f.l ∉ fs.map Fb.l := by
  intro h
  obtain ⟨g, hg, e⟩ := List.mem_map.1 h
  obtain ⟨t, ht, rfl⟩ := List.getElem_of_mem hg
  have := hP.2.1 t ht (by omega)
  rw [e, self_zero ord_fact] at this
  omega

set_option maxHeartbeats 4000000 in
theorem search_any (a : Option Addr) (len cap : Nat) (fs : List Fb) (f : Fb) (w : World) (hrow : RowF w a fs) (hf : f.In w) (hl : len ≤ fs.length) (hl' : fs.length ≤ len) (h1k : len ≤ 1000) (hL : ∀ f ∈ fs, f.len ≤ 1000) (hR : Hid (Rise cmpF (fs.map Fb.l))) :
    Calls Try.prog 50 #[.slice a len cap, .agg #[.string f.n, .slice f.a f.len f.cap], .func (.func 27) #[] #[]] w fun e w' => ∃ (p : Nat) (q : Bool), e = .returned (.tuple #[.int .i64 p, .bool q]) ∧ Hid (Place fs f p) ∧ p ≤ len ∧ Hid (q = decide (f.l ∈ fs.map Fb.l)) ∧ (q = true → p < len) ∧ Below w.heap.size w w' := by
  have hdr := in_drew
  have hba : Below w.heap.size w (w.alloc (bxO f)) := (Below.refl _ _).alloc (Nat.le_refl _) _
  obtain ⟨k0, k1⟩ := pair_of (heap_alloc_new w (bxO f))
  go_enter Try.func50, Try.ntmps50
  go_wp2_with fail
  go_loopw [9, 10, 11] (fun vi vj _ wr => ∃ i j : Nat, i ≤ j ∧ j ≤ len ∧ vi = .int .i64 i ∧ vj = .int .i64 j ∧ Hid (∀ t (h : t < fs.length), t < i → cmpF fs[t].l f.l < 0) ∧ Hid (∀ t (h : t < fs.length), j ≤ t → 0 ≤ cmpF fs[t].l f.l) ∧ Below (w.alloc (bxO f)).heap.size (w.alloc (bxO f)) wr) (fun vi vj _ _ => (intOf vj).toNat - (intOf vi).toNat)
  case atStart => exact ⟨0, len, Nat.zero_le _, Nat.le_refl _, rfl, rfl, hide (by intro t _ h; omega), hide (by intro t h h'; omega), Below.refl _ _⟩
  case round =>
    obtain ⟨i, j, hij, hj, rfl, rfl, HI, HJ, hbw⟩ := hrel
    have m0 := cell_on hbw k0
    have m1 := cell_on hbw k1
    have hww := bt hba hbw
    by_cases hlt : i < j
    · obtain ⟨h, he⟩ : ∃ h : Nat, ((i : Int) + (j : Int)) / 2 = (h : Int) := ⟨(i + j) / 2, by omega⟩
      have hh1 : i ≤ h := by omega
      have hh2 : h < j := by omega
      have hh3 : (h : Int) < (len : Int) := by omega
      have hh4 : (0 : Int) ≤ (h : Int) := by omega
      go_wp2_with fail
      obtain ⟨b, o, ha, hbl, c0, c1, hin⟩ := (hrow.on hww).up (show h < fs.length by omega)
      subst ha
      have lf := hL fs[h] (List.getElem_mem (by omega))
      have hfin := hf.on hww
      by_cases hz : cmpF fs[h].l f.l < 0
      · have HI' : Hid (∀ t (ht : t < fs.length), t < h + 1 → cmpF fs[t].l f.l < 0) := hide (rise_up (unhide hR) (by omega) hz)
        obtain ⟨x, hx⟩ : ∃ x, cmpF fs[h].l f.l = x := ⟨_, rfl⟩
        rw [hx] at hz
        have HX := hide hx
        clear hx
        generalize fs[h] = g at c0 c1 hin lf HX
        go_region_held3 (fun w' => w'.cell? ⟨b, o + h * 2, none⟩ = some (.string g.n) ∧ w'.cell? ⟨b, o + h * 2 + 1, none⟩ = some (.slice g.a g.len g.cap) ∧ w'.cell? ⟨w.heap.size, 0, none⟩ = some (.string f.n) ∧ w'.cell? ⟨w.heap.size, 1, none⟩ = some (.slice f.a f.len f.cap) ∧ g.In w' ∧ f.In w') (go_keep) (first | (go_at_call 27; refine (compare_xk _ _ x _ (by simp [*]) (by simp [*]) lf HX).mono ?_; rintro e w' ⟨rfl, hb', hk', hi⟩))
        have hbw' : Below (w.alloc (bxO f)).heap.size (w.alloc (bxO f)) w' := hbw.drew.trans (hb'.mono hbw.size)
        clear c0 c1 m0 m1 hi hk' hin hfin
        go_wp2_with fail
        go_roundw
        case rel => exact ⟨h + 1, j, by omega, by omega, by go_num, rfl, HI', HJ, hbw'⟩
        case measure => simp [intOf]; omega
      · have hz' : 0 ≤ cmpF fs[h].l f.l := by omega
        have HJ' : Hid (∀ t (ht : t < fs.length), h ≤ t → 0 ≤ cmpF fs[t].l f.l) := hide (rise_dn (unhide hR) (by omega) hz')
        obtain ⟨x, hx⟩ : ∃ x, cmpF fs[h].l f.l = x := ⟨_, rfl⟩
        rw [hx] at hz hz'
        have HX := hide hx
        clear hx
        generalize fs[h] = g at c0 c1 hin lf HX
        go_region_held3 (fun w' => w'.cell? ⟨b, o + h * 2, none⟩ = some (.string g.n) ∧ w'.cell? ⟨b, o + h * 2 + 1, none⟩ = some (.slice g.a g.len g.cap) ∧ w'.cell? ⟨w.heap.size, 0, none⟩ = some (.string f.n) ∧ w'.cell? ⟨w.heap.size, 1, none⟩ = some (.slice f.a f.len f.cap) ∧ g.In w' ∧ f.In w') (go_keep) (first | (go_at_call 27; refine (compare_xk _ _ x _ (by simp [*]) (by simp [*]) lf HX).mono ?_; rintro e w' ⟨rfl, hb', hk', hi⟩))
        have hbw' : Below (w.alloc (bxO f)).heap.size (w.alloc (bxO f)) w' := hbw.drew.trans (hb'.mono hbw.size)
        clear c0 c1 m0 m1 hi hk' hin hfin
        go_wp2_with fail
        go_roundw
        case rel => exact ⟨i, h, by omega, by omega, rfl, rfl, HI, HJ', hbw'⟩
        case measure => simp [intOf]; omega
    · have hji : j = i := by omega
      subst hji
      have HP : Hid (Place fs f j) := hide ⟨by omega, unhide HI, unhide HJ⟩
      by_cases hjl : j < len
      · have hd : decide ((j : Int) < (len : Int)) = true := by simp; omega
        obtain ⟨b, o, ha, hbl, c0, c1, hin⟩ := (hrow.on hww).up (show j < fs.length by omega)
        subst ha
        have lf := hL fs[j] (List.getElem_mem (by omega))
        have hfin := hf.on hww
        obtain ⟨x, hx⟩ : ∃ x, cmpF fs[j].l f.l = x := ⟨_, rfl⟩
        have HQ : Hid ((x == 0) = decide (f.l ∈ fs.map Fb.l)) := by
          refine hide ?_
          have := place_mem (show j < fs.length by omega) (unhide HP) (unhide hR)
          rw [hx] at this
          by_cases hx0 : x = 0
          · simp [this.2 hx0, hx0]
          · simp only [hx0, iff_false] at this
            simp [this, hx0]
        have HX := hide hx
        clear hx HI HJ hlt
        generalize fs[j] = g at c0 c1 hin lf HX
        go_wp2_with fail
        go_region_held3 (fun w' => w'.cell? ⟨b, o + j * 2, none⟩ = some (.string g.n) ∧ w'.cell? ⟨b, o + j * 2 + 1, none⟩ = some (.slice g.a g.len g.cap) ∧ w'.cell? ⟨w.heap.size, 0, none⟩ = some (.string f.n) ∧ w'.cell? ⟨w.heap.size, 1, none⟩ = some (.slice f.a f.len f.cap) ∧ g.In w' ∧ f.In w') (go_keep) (first | (go_at_call 27; refine (compare_xk _ _ x _ (by simp [*]) (by simp [*]) lf HX).mono ?_; rintro e w' ⟨rfl, hb', hk', hi⟩))
        have hbw' : Below w.heap.size w w' := bt hww.drew hb'
        clear c0 c1 m0 m1 hi hk' hin hfin
        go_wp2_with fail
        go_ret2
        exact ⟨j, x == 0, rfl, HP, hj, HQ, (fun _ => hjl), hbw'⟩
      · have hd : decide ((j : Int) < (len : Int)) = false := by simp; omega
        have HQ : Hid (false = decide (f.l ∈ fs.map Fb.l)) := by
          refine hide ?_
          have := place_end (show fs.length ≤ j by omega) (unhide HP)
          simp [this]
        clear HI HJ hlt
        go_wp2_with fail
        go_quiet (fail)
        go_wp2_with fail
        go_ret2
        exact ⟨j, false, rfl, HP, hj, HQ, (fun h => by cases h), below_drewN hww _⟩

/-- What is cut out of a list. -/
def Cut (w' : World) (fs : List Fb) (f : Fb) (e : Ending) : Prop := ∃ (a1 a2 : Option Addr) (p d r c1 c2 : Nat), e = .returned (.tuple #[.slice a1 p c1, .slice a2 r c2]) ∧ RowF w' a1 (fs.take p) ∧ RowF w' a2 (fs.drop d) ∧ p = (fs.take p).length ∧ r = (fs.drop d).length ∧ (fs.take p).map Fb.l ++ f.l :: (fs.drop d).map Fb.l = putL cmpF (fs.map Fb.l) f.l ∧ (fs.take p).map Fb.l ++ (fs.drop d).map Fb.l = dropL (fs.map Fb.l) f.l

theorem rowF_take {w : World} {a : Option Addr} {fs : List Fb} (h : RowF w a fs) (p : Nat) : RowF w a (fs.take p) := by
  refine ⟨fun f hf => h.1 f (List.mem_of_mem_take hf), ?_⟩
  rcases h.2 with h | ⟨b, o, ha, hlt, hc⟩
  · left; simp [h]
  · refine Or.inr ⟨b, o, ha, hlt, fun i f hf => hc i f ?_⟩
    rw [List.getElem?_take] at hf
    split at hf
    · exact hf
    · cases hf
theorem rowF_drop {w : World} {b o : Nat} {fs : List Fb} (h : RowF w (some ⟨b, o, none⟩) fs) (p : Nat) : RowF w (some ⟨b, o + p * 2, none⟩) (fs.drop p) := by
  refine ⟨fun f hf => h.1 f (List.mem_of_mem_drop hf), ?_⟩
  rcases h.2 with h | ⟨b', o', ha, hlt, hc⟩
  · left; simp [h]
  · simp only [Option.some.injEq, Addr.mk.injEq, and_true] at ha
    obtain ⟨rfl, rfl⟩ := ha
    refine Or.inr ⟨b, o + p * 2, rfl, hlt, fun i f hf => ?_⟩
    rw [List.getElem?_drop] at hf
    have := hc (p + i) f hf
    rw [show o + (p + i) * 2 = o + p * 2 + i * 2 by omega] at this
    exact this

theorem cut_found {L : List Fc} (hR : Rise cmpF L) {p : Nat} (hp : p < L.length) {x : Fc} (hx : L[p] = x) : L.take p ++ x :: L.drop (p + 1) = putL cmpF L x ∧ L.take p ++ L.drop (p + 1) = dropL L x := by
  have hL : L = L.take p ++ x :: L.drop (p + 1) := by
    rw [← hx, ← List.drop_eq_getElem_cons hp, List.take_append_drop]
  have hm : x ∈ L := by rw [← hx]; exact List.getElem_mem hp
  refine ⟨?_, ?_⟩
  · rw [putL, if_pos hm]; exact hL.symm
  · have hR' := hR
    rw [hL] at hR'
    obtain ⟨h1, h2, h3⟩ := List.pairwise_append.1 hR'
    obtain ⟨h4, h5⟩ := List.pairwise_cons.1 h2
    have z := self_zero ord_fact x
    refine rise_ext ord_fact (List.pairwise_append.2 ⟨h1, h5, fun a ha b hb => h3 a ha b (List.mem_cons_of_mem _ hb)⟩) (rise_drop hR) (fun y => ?_)
    rw [mem_drop', List.mem_append]
    constructor
    · rintro (h | h)
      · refine ⟨List.mem_of_mem_take h, fun e => ?_⟩
        subst e
        have := h3 y h y (by simp)
        omega
      · refine ⟨List.mem_of_mem_drop h, fun e => ?_⟩
        subst e
        have := h4 y h
        omega
    · rintro ⟨h, hne⟩
      rw [hL] at h
      rcases List.mem_append.1 h with h | h
      · exact Or.inl h
      · rcases List.mem_cons.1 h with h | h
        · exact absurd h hne
        · exact Or.inr h
theorem cut_none {L : List Fc} (hR : Rise cmpF L) {p : Nat} {x : Fc} (hlo : ∀ i (h : i < L.length), i < p → cmpF L[i] x < 0) (hhi : ∀ i (h : i < L.length), p ≤ i → 0 ≤ cmpF L[i] x) (hx : x ∉ L) : L.take p ++ x :: L.drop p = putL cmpF L x ∧ L.take p ++ L.drop p = dropL L x := by
  refine ⟨?_, ?_⟩
  · have hR' := hR
    rw [← List.take_append_drop p L] at hR'
    obtain ⟨h1, h2, h3⟩ := List.pairwise_append.1 hR'
    have h4 : ∀ y ∈ L.take p, cmpF y x = -1 := by
      intro y hy
      obtain ⟨i, hi, rfl⟩ := List.getElem_of_mem hy
      simp only [List.length_take] at hi
      have := hlo i (by omega) (by omega)
      rw [List.getElem_take]
      exact (lt_neg ord_fact).1 this
    have h5 : ∀ y ∈ L.drop p, cmpF x y = -1 := by
      intro y hy
      have hne : x ≠ y := fun e => hx (e ▸ List.mem_of_mem_drop hy)
      obtain ⟨i, hi, rfl⟩ := List.getElem_of_mem hy
      simp only [List.length_drop] at hi
      have h6 := hhi (p + i) (by omega) (by omega)
      rw [List.getElem_drop] at hne ⊢
      have h7 := ord_fact.anti x L[p + i]
      have h8 := ord_fact.tri x L[p + i]
      have h9 : cmpF x L[p + i] ≠ 0 := fun e => hne ((ord_fact.zero _ _).1 e)
      omega
    refine rise_ext ord_fact (List.pairwise_append.2 ⟨h1, List.pairwise_cons.2 ⟨h5, h2⟩, fun a ha b hb => ?_⟩) (rise_put ord_fact hR) (fun y => ?_)
    · rcases List.mem_cons.1 hb with rfl | hb
      · exact h4 a ha
      · exact h3 a ha b hb
    · rw [mem_put, List.mem_append, List.mem_cons]
      constructor
      · rintro (h | h | h)
        · exact Or.inr (List.mem_of_mem_take h)
        · exact Or.inl h
        · exact Or.inr (List.mem_of_mem_drop h)
      · rintro (h | h)
        · exact Or.inr (Or.inl h)
        · rw [← List.take_append_drop p L] at h
          rcases List.mem_append.1 h with h | h
          · exact Or.inl h
          · exact Or.inr (Or.inr h)
  · rw [List.take_append_drop, drop_none hx]
theorem place_found {fs : List Fb} {f : Fb} {p : Nat} (hP : Place fs f p) (hp : p < fs.length) (hR : Rise cmpF (fs.map Fb.l)) (hm : f.l ∈ fs.map Fb.l) : (fs.take p).map Fb.l ++ f.l :: (fs.drop (p + 1)).map Fb.l = putL cmpF (fs.map Fb.l) f.l ∧ (fs.take p).map Fb.l ++ (fs.drop (p + 1)).map Fb.l = dropL (fs.map Fb.l) f.l := by
  rw [List.map_take, List.map_drop]
  refine cut_found hR (by simpa using hp) ?_
  rw [List.getElem_map]
  exact (ord_fact.zero _ _).1 ((place_mem hp hP hR).1 hm)
theorem place_none {fs : List Fb} {f : Fb} {p : Nat} (hP : Place fs f p) (hR : Rise cmpF (fs.map Fb.l)) (hm : f.l ∉ fs.map Fb.l) : (fs.take p).map Fb.l ++ f.l :: (fs.drop p).map Fb.l = putL cmpF (fs.map Fb.l) f.l ∧ (fs.take p).map Fb.l ++ (fs.drop p).map Fb.l = dropL (fs.map Fb.l) f.l := by
  rw [List.map_take, List.map_drop]
  refine cut_none hR (fun i h hi => ?_) (fun i h hi => ?_) hm
  · rw [List.getElem_map]; exact hP.2.1 i (by simpa using h) hi
  · rw [List.getElem_map]; exact hP.2.2 i (by simpa using h) hi

theorem rowF_cut {w : World} {b o cap d : Nat} {fs : List Fb} (h : RowF w (some ⟨b, o, none⟩) fs) (hc : fs.length ≤ cap) : RowF w (if cap = d then some ⟨b, o, none⟩ else some ⟨b, o + d * 2, none⟩) (fs.drop d) := by
  split
  · have : fs.drop d = [] := List.drop_eq_nil_of_le (by omega)
    rw [this]
    exact ⟨by simp, Or.inl rfl⟩
  · exact rowF_drop h d

set_option maxHeartbeats 2000000 in
theorem around_some (b o len cap : Nat) (fs : List Fb) (f : Fb) (w : World) (hrow : RowF w (some ⟨b, o, none⟩) fs) (hf : f.In w) (hl : len ≤ fs.length) (hl' : fs.length ≤ len) (h1k : len ≤ 1000) (hcap : len ≤ cap) (hL : ∀ f ∈ fs, f.len ≤ 1000) (hR : Hid (Rise cmpF (fs.map Fb.l))) :
    Calls Try.prog 32 #[.slice (some ⟨b, o, none⟩) len cap, .agg #[.string f.n, .slice f.a f.len f.cap]] w fun e w' => Cut w' fs f e ∧ Below w.heap.size w w' := by
  have hba : Below w.heap.size w (w.alloc (bxO f)) := (Below.refl _ _).alloc (Nat.le_refl _) _
  have hs := search_any (some ⟨b, o, none⟩) len cap fs f _ (hrow.on hba) (hf.on hba) hl hl' h1k hL hR
  go_enter Try.func32, Try.ntmps32
  go_wp2_with fail
  refine hs.mono ?_
  rintro e w1 ⟨p, q, rfl, HP, hp, HQ, hpl, hb1⟩
  have hw1 := bt hba hb1
  clear hs hba hb1
  cases q with
  | true =>
    have hpl' := hpl rfl
    have i1 : (p : Int) < (len : Int) := by omega
    have i2 : (0 : Int) ≤ (p : Int) := by omega
    have i3 : (p : Int) ≤ (cap : Int) := by omega
    have i4 : (p : Int) + 1 ≤ (len : Int) := by omega
    clear hpl
    have hlf : p < fs.length := by omega
    have HC := hide (place_found (unhide HP) hlf (unhide hR) (by have := unhide HQ; exact of_decide_eq_true this.symm))
    have HA1 := hide (rowF_take (hrow.on hw1) p)
    have HA2 := hide (rowF_cut (d := p + 1) (hrow.on hw1) (show fs.length ≤ cap by omega))
    have e1 : p = (fs.take p).length := by simp; omega
    have HE1 := hide e1
    have e2 : len - (p + 1) = (fs.drop (p + 1)).length := by simp; omega
    have HE2 := hide e2
    clear e1 e2
    go_wp2_with fail
    go_quiet (fail)
    have hd := below_drewN (Below.refl w1.heap.size w1) nq
    go_wp2_with fail
    · rename_i h
      have h2 := (unhide HA2).on hd
      rw [if_pos h] at h2
      go_ret2
      exact ⟨⟨_, _, p, p + 1, _, _, _, rfl, (unhide HA1).on hd, h2, unhide HE1, unhide HE2, (unhide HC).1, (unhide HC).2⟩, below_drewN hw1 _⟩
    · rename_i h
      have h2 := (unhide HA2).on hd
      rw [if_neg h] at h2
      go_ret2
      exact ⟨⟨_, _, p, p + 1, _, _, _, rfl, (unhide HA1).on hd, h2, unhide HE1, unhide HE2, (unhide HC).1, (unhide HC).2⟩, below_drewN hw1 _⟩
  | false =>
    have i2 : (0 : Int) ≤ (p : Int) := by omega
    have i3 : (p : Int) ≤ (cap : Int) := by omega
    have i4 : (p : Int) ≤ (len : Int) := by omega
    clear hpl
    have HC := hide (place_none (unhide HP) (unhide hR) (by have := unhide HQ; exact of_decide_eq_false this.symm))
    have HA1 := hide (rowF_take (hrow.on hw1) p)
    have HA2 := hide (rowF_cut (d := p) (hrow.on hw1) (show fs.length ≤ cap by omega))
    have e1 : p = (fs.take p).length := by simp; omega
    have HE1 := hide e1
    have e2 : len - p = (fs.drop p).length := by simp; omega
    have HE2 := hide e2
    clear e1 e2
    go_wp2_with fail
    go_quiet (fail)
    have hd := below_drewN (Below.refl w1.heap.size w1) nq
    go_wp2_with fail
    · have h2 := (unhide HA2).on hd
      rw [if_pos h] at h2
      go_ret2
      exact ⟨⟨_, _, p, p, _, _, _, rfl, (unhide HA1).on hd, h2, unhide HE1, unhide HE2, (unhide HC).1, (unhide HC).2⟩, below_drewN hw1 _⟩
    · have h2 := (unhide HA2).on hd
      rw [if_neg h] at h2
      go_ret2
      exact ⟨⟨_, _, p, p, _, _, _, rfl, (unhide HA1).on hd, h2, unhide HE1, unhide HE2, (unhide HC).1, (unhide HC).2⟩, below_drewN hw1 _⟩

set_option maxHeartbeats 2000000 in
theorem around_none (a : Option Addr) (cap : Nat) (f : Fb) (w : World) (hf : f.In w) :
    Calls Try.prog 32 #[.slice a 0 cap, .agg #[.string f.n, .slice f.a f.len f.cap]] w fun e w' => Cut w' [] f e ∧ Below w.heap.size w w' := by
  have hba : Below w.heap.size w (w.alloc (bxO f)) := (Below.refl _ _).alloc (Nat.le_refl _) _
  have hs := search_any a 0 cap [] f _ ⟨by simp, Or.inl rfl⟩ (hf.on hba) (Nat.le_refl _) (Nat.le_refl _) (by omega) (by simp) (hide List.Pairwise.nil)
  have HR : Hid (∀ (W : World) (q : Option Addr), RowF W q []) := hide (fun W q => ⟨by simp, Or.inl rfl⟩)
  cases a with
  | none =>
    go_enter Try.func32, Try.ntmps32
    go_wp2_with fail
    refine hs.mono ?_
    rintro e w1 ⟨p, q, rfl, HP, hp, HQ, hpl, hb1⟩
    have hw1 := bt hba hb1
    clear hs hba hb1 HP HQ
    cases q with
    | true => exact absurd (hpl rfl) (by omega)
    | false =>
      have hp0 : p = 0 := by omega
      subst hp0
      clear hpl hp
      go_wp2_with fail
      go_quiet (fail)
      go_wp2_with fail
      go_ret2
      exact ⟨⟨_, _, 0, 0, _, _, _, rfl, unhide HR _ _, unhide HR _ _, rfl, rfl, rfl, rfl⟩, below_drewN hw1 _⟩
  | some ad =>
    go_enter Try.func32, Try.ntmps32
    go_wp2_with fail
    refine hs.mono ?_
    rintro e w1 ⟨p, q, rfl, HP, hp, HQ, hpl, hb1⟩
    have hw1 := bt hba hb1
    clear hs hba hb1 HP HQ
    cases q with
    | true => exact absurd (hpl rfl) (by omega)
    | false =>
      have hp0 : p = 0 := by omega
      subst hp0
      clear hpl hp
      go_wp2_with fail
      go_quiet (fail)
      go_wp2_with fail
      go_ret2
      exact ⟨⟨_, _, 0, 0, _, _, _, rfl, unhide HR _ _, unhide HR _ _, rfl, rfl, rfl, rfl⟩, below_drewN hw1 _⟩

theorem around_any (a : Option Addr) (len cap : Nat) (fs : List Fb) (f : Fb) (w : World) (hrow : RowF w a fs) (hf : f.In w) (hl : len = fs.length) (h1k : len ≤ 1000) (hcap : len ≤ cap) (hL : ∀ f ∈ fs, f.len ≤ 1000) (hR : Rise cmpF (fs.map Fb.l)) :
    Calls Try.prog 32 #[.slice a len cap, .agg #[.string f.n, .slice f.a f.len f.cap]] w fun e w' => Cut w' fs f e ∧ Below w.heap.size w w' := by
  rcases hrow.2 with h | ⟨b, o, rfl, _⟩
  · subst h hl
    exact around_none a cap f w hf
  · exact around_some b o len cap fs f w hrow hf (by omega) (by omega) h1k hcap hL (hide hR)
end Go.Proofs.Ytmnonjacomabbaa

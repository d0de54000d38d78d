/- What sets.union, sets.Of, sets.Both answer. -/
import Derived.Test.YtmnonjacomabbaaSetE
import Derived.Test.YtmnonjacomabbaaSetF
import Derived.Test.YtmnonjacomabbaaSetG
namespace Go.Proofs.Ytmnonjacomabbaa
open Go.RowKit
open V

theorem map_l_of_c {xs ys : List Fb} (h : xs.map Fb.c = ys.map Fb.c) : xs.map Fb.l = ys.map Fb.l := by
  have e : Fb.l = (fun p : ByteArray × List Vb => (p.1.data.toList, p.2.map Vb.l)) ∘ Fb.c := rfl
  rw [e, ← List.map_map, ← List.map_map, h]
theorem light_of_c {f g : Fb} (h : g.c = f.c) (lf : f.Light) (hf : f.len = f.vs.length) (hg : g.len = g.vs.length) : g.Light := by
  simp only [Fb.c, Prod.mk.injEq] at h
  exact ⟨by rw [h.1]; exact lf.n, by rw [hg, h.2, ← hf]; exact lf.len, by rw [h.2]; exact lf.vs⟩
theorem lights_of_c {xs ys : List Fb} (h : xs.map Fb.c = ys.map Fb.c) (hy : ∀ f ∈ ys, f.Light ∧ f.len = f.vs.length) (hx : ∀ f ∈ xs, f.len = f.vs.length) : ∀ f ∈ xs, f.Light := by
  intro f hf
  have : f.c ∈ ys.map Fb.c := by rw [← h]; exact List.mem_map.2 ⟨f, hf, rfl⟩
  obtain ⟨g, hg, e⟩ := List.mem_map.1 this
  exact light_of_c e.symm (hy g hg).1 (hy g hg).2 (hx f hf)

/-- A list that a call has told, in new memory from block B on: its facts are l. -/
structure Told (B : Nat) (w : World) (a : Option Addr) (n cap : Nat) (gs : List Fb) (l : List Fc) : Prop where
  made : MadeL B w (.slice a n cap) n gs
  light : ∀ g ∈ gs, g.Light
  eq : gs.map Fb.l = l
theorem Told.on {B : Nat} {w w' : World} {a : Option Addr} {n cap : Nat} {gs : List Fb} {l : List Fc} (h : Told B w a n cap gs l) (hb : Below w.heap.size w w') : Told B w' a n cap gs l := ⟨h.made.on hb, h.light, h.eq⟩
theorem Told.row {B : Nat} {w : World} {a : Option Addr} {n cap : Nat} {gs : List Fb} {l : List Fc} (h : Told B w a n cap gs l) : RowF w a gs := h.made.row
theorem Told.nil {B : Nat} {w : World} {a : Option Addr} {n cap : Nat} {gs : List Fb} {l : List Fc} (h : Told B w a n cap gs l) : a = none → cap = 0 := by
  intro ha
  rcases h.made.own.2 with ⟨hv, _⟩ | ⟨g, cap, cur, hv, _⟩
  · simp at hv; exact hv.2.2
  · simp [ha] at hv
theorem Told.nils {B : Nat} {w : World} {a : Option Addr} {n cap : Nat} {gs : List Fb} {l : List Fc} (h : Told B w a n cap gs l) : ∀ g ∈ gs, g.a = none → g.cap = 0 := fun g hg => (h.made.new g hg).nil
theorem Told.len {B : Nat} {w : World} {a : Option Addr} {n cap : Nat} {gs : List Fb} {l : List Fc} (h : Told B w a n cap gs l) : n = gs.length := h.made.len
theorem Told.lenl {B : Nat} {w : World} {a : Option Addr} {n cap : Nat} {gs : List Fb} {l : List Fc} (h : Told B w a n cap gs l) : n = l.length := by rw [← h.eq, List.length_map]; exact h.len

theorem sum_len {w : World} {b : Nat} {ls : List Lb} (hr : RowL w b ls) : (allL ls).length = sumL ls := by
  have h : ∀ l ∈ ls, l.len = l.fs.length := fun l hl => by
    obtain ⟨i, hi, rfl⟩ := List.getElem_of_mem hl
    exact (hr.up hi).2.len
  clear hr
  induction ls with
  | nil => rfl
  | cons x r ih =>
    have h1 := h x (by simp)
    have h2 := ih (fun l hl => h l (by simp [hl]))
    simp only [allL, List.flatMap_cons, List.length_append] at h2 ⊢
    rw [h2]
    simp [sumL, h1]

set_option maxHeartbeats 2000000 in
theorem union_any (b m : Nat) (ls : List Lb) (w : World) (hr : RowL w b ls) (hm : m = ls.length) (hm3 : m ≤ 3) (hsum : sumL ls ≤ 1000) (hnil : ∀ l ∈ ls, l.a = none → l.cap = 0) :
    Calls Try.prog 30 #[.slice (some ⟨b, 0, none⟩) m m] w fun e w' => ∃ (a : Option Addr) (n cap : Nat) (gs : List Fb), e = .returned (.slice a n cap) ∧ Told w.heap.size w' a n cap gs (ofL cmpF ((allL ls).map Fb.l)) ∧ Below w.heap.size w w' := by
  have hall : ∀ f ∈ allL ls, f.In w ∧ f.Light := fun f hf => by
    obtain ⟨l, hl, hfl⟩ := List.mem_flatMap.1 hf
    obtain ⟨i, hi, rfl⟩ := List.getElem_of_mem hl
    exact ⟨(hr.up hi).2.row.1 f hfl, (hr.up hi).2.light f hfl⟩
  have hlen := sum_len hr
  have hcat := concat_any b m ls w hr (by omega) (by omega) hm3 hsum hnil
  clear hm hr hnil
  have HL := hide hlen
  clear hlen
  go_enter Try.func30, Try.ntmps30
  go_wp2_with fail
  refine hcat.mono ?_
  rintro e w1 ⟨a, n, cap, rfl, hown, hb1⟩
  have hn : n = (allL ls).length := by have := hown.1; rw [flatF_len] at this; omega
  have HN := hide hn
  have hn1k : n ≤ 1000 := by rw [hn, unhide HL]; exact hsum
  clear hn
  go_wp2_with fail
  refine (sort_any a n cap (allL ls) w w1 hb1 hown (unhide HN) (fun f hf => (hall f hf).1) (fun f hf => by have := (hall f hf).2.len; omega) hn1k).mono ?_
  rintro e w2 ⟨rfl, fs, hperm, hpw, hown2, hb2⟩
  go_wp2_with fail
  refine (compact_any a n cap fs w w2 hb2 hown2 (by rw [hperm.length_eq]; exact unhide HN) (fun f hf => (hall f (hperm.mem_iff.1 hf)).1) (fun f hf => by have := (hall f (hperm.mem_iff.1 hf)).2.len; omega) hn1k hpw).mono ?_
  rintro e w3 ⟨m', c', gs, rfl, hrow3, hlen3, HS, HO, hb3⟩
  have hgs : ∀ g ∈ gs, g ∈ allL ls := fun g hg => hperm.mem_iff.1 (unhide HO g hg)
  have hm' : m' ≤ 1000 := by
    have h1 : gs.map Fb.l = ofL cmpF (fs.map Fb.l) := is_of ord_fact (unhide HS).1 (unhide HS).2
    have h2 : (gs.map Fb.l).Nodup := rise_nodup ord_fact (unhide HS).1
    have h3 : (gs.map Fb.l).Subset (fs.map Fb.l) := fun x hx => ((unhide HS).2 x).1 hx
    have h4 := List.Nodup.length_le_of_subset h2 h3
    simp only [List.length_map] at h4
    rw [hperm.length_eq, ← unhide HN] at h4
    omega
  have hba : Below w3.heap.size w3 (w3.alloc (.cells #[.slice a m' c'] 22)) := (Below.refl _ _).alloc (Nat.le_refl _) _
  have hrl : RowL (w3.alloc (.cells #[.slice a m' c'] 22)) w3.heap.size [⟨a, m', c', gs⟩] := by
    refine ⟨by simp, fun i l hl => ?_⟩
    match i, hl with
    | 0, hl =>
      simp at hl
      subst hl
      refine ⟨?_, ⟨hrow3.on hba, hlen3, fun f hf => (hall f (hgs f hf)).2⟩⟩
      rw [Lib.cell_of_heap (heap_alloc_new w3 _)]; rfl
  have hj := join_any w3.heap.size 1 [⟨a, m', c', gs⟩] _ hrl (Nat.le_refl _) (Nat.le_refl _) (by omega) (by simpa [sumL] using hm')
  have HG : Hid (∀ hs : List Fb, hs.map Fb.c = (allL [⟨a, m', c', gs⟩]).map Fb.c → (∀ h ∈ hs, h.len = h.vs.length) → (∀ h ∈ hs, h.Light) ∧ hs.map Fb.l = ofL cmpF ((allL ls).map Fb.l)) := by
    refine hide (fun hs hc hl => ?_)
    simp only [allL, List.flatMap_cons, List.flatMap_nil, List.append_nil] at hc
    refine ⟨lights_of_c hc (fun f hf => ⟨(hall f (hgs f hf)).2, (hall f (hgs f hf)).1.len⟩) hl, ?_⟩
    rw [map_l_of_c hc]
    refine is_of ord_fact (unhide HS).1 (fun x => ?_)
    rw [(unhide HS).2 x]
    exact (hperm.map Fb.l).mem_iff
  have hb4 := hb3.trans (hba.mono hb3.size)
  clear hrl hrow3 hlen3 HS HO hgs hall hperm hpw hown2 hb2 hown hb1 hba
  go_wp2_with fail
  refine hj.mono ?_
  rintro e w4 ⟨a4, n4, c4, hs, rfl, hM, HC, hb5⟩
  obtain ⟨hl4, he4⟩ := unhide HG hs (unhide HC) (fun h hh => (hM.new h hh).len)
  have hM' := hM.mono (B' := w.heap.size) (by have := hb3.size; simp; omega)
  have hb6 := bt hb4 hb5
  clear HG hj HC hb5 hM
  go_wp2_with fail
  go_ret
  exact ⟨a4, n4, c4, hs, rfl, ⟨hM', hl4, he4⟩, hb6⟩

theorem rowL_one {w : World} (l : Lb) (h : l.In w) : RowL (w.alloc (.cells #[.slice l.a l.len l.cap] 22)) w.heap.size [l] := by
  have hba : Below w.heap.size w (w.alloc (.cells #[.slice l.a l.len l.cap] 22)) := (Below.refl _ _).alloc (Nat.le_refl _) _
  refine ⟨by simp, fun i x hx => ?_⟩
  match i, hx with
  | 0, hx =>
    simp at hx
    subst hx
    exact ⟨by rw [Lib.cell_of_heap (heap_alloc_new w _)]; rfl, h.on hba⟩
theorem rowL_two {w : World} (l m : Lb) (h : l.In w) (k : m.In w) : RowL (w.alloc (.cells #[.slice l.a l.len l.cap, .slice m.a m.len m.cap] 22)) w.heap.size [l, m] := by
  have hba : Below w.heap.size w (w.alloc (.cells #[.slice l.a l.len l.cap, .slice m.a m.len m.cap] 22)) := (Below.refl _ _).alloc (Nat.le_refl _) _
  refine ⟨by simp, fun i x hx => ?_⟩
  match i, hx with
  | 0, hx =>
    simp at hx
    subst hx
    exact ⟨by rw [Lib.cell_of_heap (heap_alloc_new w _)]; rfl, h.on hba⟩
  | 1, hx =>
    simp at hx
    subst hx
    exact ⟨by rw [Lib.cell_of_heap (heap_alloc_new w _)]; rfl, k.on hba⟩
theorem rowL_three {w : World} (l m n : Lb) (h : l.In w) (k : m.In w) (q : n.In w) : RowL (w.alloc (.cells #[.slice l.a l.len l.cap, .slice m.a m.len m.cap, .slice n.a n.len n.cap] 22)) w.heap.size [l, m, n] := by
  have hba : Below w.heap.size w (w.alloc (.cells #[.slice l.a l.len l.cap, .slice m.a m.len m.cap, .slice n.a n.len n.cap] 22)) := (Below.refl _ _).alloc (Nat.le_refl _) _
  refine ⟨by simp, fun i x hx => ?_⟩
  match i, hx with
  | 0, hx =>
    simp at hx
    subst hx
    exact ⟨by rw [Lib.cell_of_heap (heap_alloc_new w _)]; rfl, h.on hba⟩
  | 1, hx =>
    simp at hx
    subst hx
    exact ⟨by rw [Lib.cell_of_heap (heap_alloc_new w _)]; rfl, k.on hba⟩
  | 2, hx =>
    simp at hx
    subst hx
    exact ⟨by rw [Lib.cell_of_heap (heap_alloc_new w _)]; rfl, q.on hba⟩

set_option maxHeartbeats 1000000 in
theorem of_bad (a : Option Addr) (len cap : Nat) (fs : List Fb) (w : World) (hrow : RowF w a fs) (hl : len = fs.length) (h1k : len ≤ 1000) (hL : ∀ f ∈ fs, f.Light) (hr : Hid ((fs.map Fb.l).all rightF = false)) :
    Calls Try.prog 11 #[.slice a len cap] w fun e w' => e = .returned (.tuple #[.slice none 0 0, .int .i64 1]) ∧ Below w.heap.size w w' := by
  have hc := eachRight_any a len cap fs w hrow (by omega) (by omega) h1k hL
  rw [chk_f (unhide hr)] at hc
  clear hl
  go_enter Try.func11, Try.ntmps11
  go_wp2_with fail
  refine hc.mono ?_
  rintro e w1 ⟨rfl, hb1⟩
  go_wp2_with fail
  go_ret2
  exact ⟨rfl, hb1⟩

set_option maxHeartbeats 1000000 in
theorem of_ok (a : Option Addr) (len cap : Nat) (fs : List Fb) (w : World) (hrow : RowF w a fs) (hl : len = fs.length) (h1k : len ≤ 1000) (hL : ∀ f ∈ fs, f.Light) (hnil : a = none → cap = 0) (hr : Hid ((fs.map Fb.l).all rightF = true)) :
    Calls Try.prog 11 #[.slice a len cap] w fun e w' => ∃ (a' : Option Addr) (n c : Nat) (gs : List Fb), e = .returned (.tuple #[.slice a' n c, .int .i64 0]) ∧ Told w.heap.size w' a' n c gs (ofL cmpF (fs.map Fb.l)) ∧ Below w.heap.size w w' := by
  have hc := eachRight_any a len cap fs w hrow (by omega) (by omega) h1k hL
  rw [chk_t (unhide hr)] at hc
  have hu := fun (W : World) (hb : Below w.heap.size w W) => union_any W.heap.size 1 [⟨a, len, cap, fs⟩] _ (rowL_one ⟨a, len, cap, fs⟩ ⟨hrow.on hb, hl, hL⟩) rfl (by omega) (by simpa [sumL] using h1k) (by simpa using hnil)
  clear hl hnil
  go_enter Try.func11, Try.ntmps11
  go_wp2_with fail
  refine hc.mono ?_
  rintro e w1 ⟨rfl, hb1⟩
  have hu1 := hu w1 hb1
  clear hu hc
  go_wp2_with fail
  refine hu1.mono ?_
  rintro e w2 ⟨a', n, c, gs, rfl, hT, hb2⟩
  have hb3 := bt hb1 (below_box hb2)
  have hT' : Told w.heap.size w2 a' n c gs (ofL cmpF (fs.map Fb.l)) := by
    obtain ⟨h1, h2, h3⟩ := hT
    exact ⟨h1.mono (by have := hb1.size; simp; omega), h2, by simpa [allL] using h3⟩
  clear hu1 hT hb2
  go_wp2_with fail
  go_ret2
  exact ⟨a', n, c, gs, rfl, hT', hb3⟩

set_option maxHeartbeats 1000000 in
theorem both_bad (a a' : Option Addr) (len cap len' cap' : Nat) (fs gs : List Fb) (w : World) (hrow : RowF w a fs) (hrow' : RowF w a' gs) (hl : len = fs.length) (hl' : len' = gs.length) (h1k : len ≤ 1000) (h1k' : len' ≤ 1000) (hL : ∀ f ∈ fs, f.Light) (hL' : ∀ f ∈ gs, f.Light) (hr : Hid ((setB (fs.map Fb.l) && setB (gs.map Fb.l)) = false)) :
    Calls Try.prog 14 #[.slice a len cap, .slice a' len' cap'] w fun e w' => e = .returned (.tuple #[.slice none 0 0, .int .i64 1]) ∧ Below w.heap.size w w' := by
  have hc := scheck_any a len cap fs w hrow (by omega) (by omega) h1k hL
  have hc' := fun W hb => scheck_any a' len' cap' gs W (hrow'.on hb) (by omega) (by omega) h1k' hL'
  have HR := hide (or2_chk (setB (fs.map Fb.l)) (setB (gs.map Fb.l)))
  rw [chk_f (unhide hr)] at HR
  generalize chk (setB (fs.map Fb.l)) = x at hc HR
  generalize chk (setB (gs.map Fb.l)) = y at hc' HR
  clear hl hl'
  go_enter Try.func14, Try.ntmps14
  go_wp2_with fail
  refine hc.mono ?_
  rintro e w1 ⟨rfl, hb1⟩
  go_wp2_with fail
  refine (hc' w1 hb1).mono ?_
  rintro e w2 ⟨rfl, hb2⟩
  go_wp2_with fail
  refine (orE_at _ _ _ _ rfl).mono ?_
  rintro e w3 ⟨rfl, hw3⟩
  subst w3
  rw [unhide HR]
  clear hc hc'
  go_wp2_with fail
  go_ret2
  exact ⟨rfl, (bt hb1 hb2).alloc (bt hb1 hb2).size _⟩

set_option maxHeartbeats 1000000 in
theorem both_ok (a a' : Option Addr) (len cap len' cap' : Nat) (fs gs : List Fb) (w : World) (hrow : RowF w a fs) (hrow' : RowF w a' gs) (hl : len = fs.length) (hl' : len' = gs.length) (h1k : len ≤ 500) (h1k' : len' ≤ 500) (hL : ∀ f ∈ fs, f.Light) (hL' : ∀ f ∈ gs, f.Light) (hnil : a = none → cap = 0) (hnil' : a' = none → cap' = 0) (hr : Hid ((setB (fs.map Fb.l) && setB (gs.map Fb.l)) = true)) :
    Calls Try.prog 14 #[.slice a len cap, .slice a' len' cap'] w fun e w' => ∃ (q : Option Addr) (n c : Nat) (hs : List Fb), e = .returned (.tuple #[.slice q n c, .int .i64 0]) ∧ Told w.heap.size w' q n c hs (ofL cmpF (fs.map Fb.l ++ gs.map Fb.l)) ∧ Below w.heap.size w w' := by
  have hc := scheck_any a len cap fs w hrow (by omega) (by omega) (by omega) hL
  have hc' := fun W hb => scheck_any a' len' cap' gs W (hrow'.on hb) (by omega) (by omega) (by omega) hL'
  have HR := hide (or2_chk (setB (fs.map Fb.l)) (setB (gs.map Fb.l)))
  rw [chk_t (unhide hr)] at HR
  generalize chk (setB (fs.map Fb.l)) = x at hc HR
  generalize chk (setB (gs.map Fb.l)) = y at hc' HR
  have hu := fun (W : World) (hb : Below w.heap.size w W) => union_any W.heap.size 2 [⟨a, len, cap, fs⟩, ⟨a', len', cap', gs⟩] _ (rowL_two ⟨a, len, cap, fs⟩ ⟨a', len', cap', gs⟩ ⟨hrow.on hb, hl, hL⟩ ⟨hrow'.on hb, hl', hL'⟩) rfl (by omega) (by simp [sumL]; omega) (by
    intro l h
    simp at h
    rcases h with rfl | rfl
    · exact hnil
    · exact hnil')
  clear hl hl' hnil hnil'
  go_enter Try.func14, Try.ntmps14
  go_wp2_with fail
  refine hc.mono ?_
  rintro e w1 ⟨rfl, hb1⟩
  go_wp2_with fail
  refine (hc' w1 hb1).mono ?_
  rintro e w2 ⟨rfl, hb2⟩
  go_wp2_with fail
  refine (orE_at _ _ _ _ rfl).mono ?_
  rintro e w3 ⟨rfl, hw3⟩
  subst w3
  rw [unhide HR]
  have hb3 : Below w.heap.size w (w2.alloc (.cells #[.int .i64 x, .int .i64 y] 29)) := (bt hb1 hb2).alloc (bt hb1 hb2).size _
  generalize w2.alloc (.cells #[.int .i64 x, .int .i64 y] 29) = w3 at hb3
  have hu1 := hu w3 hb3
  clear hu hc hc' hb1 hb2 HR
  go_wp2_with fail
  refine hu1.mono ?_
  rintro e w4 ⟨q, n, c, hs, rfl, hT, hb4⟩
  have hb5 := bt hb3 (below_box hb4)
  have hT' : Told w.heap.size w4 q n c hs (ofL cmpF (fs.map Fb.l ++ gs.map Fb.l)) := by
    obtain ⟨h1, h2, h3⟩ := hT
    exact ⟨h1.mono (by have := hb3.size; simp; omega), h2, by simpa [allL] using h3⟩
  clear hu1 hT hb4
  go_wp2_with fail
  go_ret2
  exact ⟨q, n, c, hs, rfl, hT', hb5⟩
end Go.Proofs.Ytmnonjacomabbaa

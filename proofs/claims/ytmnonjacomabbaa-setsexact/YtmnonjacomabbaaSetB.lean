/- What the looking functions of package sets answer: eachRight, eachRises, Check, alike, Has. -/
import Derived.Test.YtmnonjacomabbaaSetA
import Derived.Test.YtmnonjacomabbaaSetP
namespace Go.Proofs.Ytmnonjacomabbaa
open Go.RowKit
open V

theorem allF_get {fs : List Fb} {k : Nat} (hk : k < fs.length) (h : rightF fs[k].l = false) : (fs.map Fb.l).all rightF = false := by
  rw [List.all_eq_false]
  exact ⟨fs[k].l, List.mem_map.2 ⟨fs[k], List.getElem_mem hk, rfl⟩, by simp [h]⟩
theorem allF_take {fs : List Fb} {k : Nat} (hk : k < fs.length) (h : rightF fs[k].l = true) (hp : ((fs.take k).map Fb.l).all rightF = true) : ((fs.take (k + 1)).map Fb.l).all rightF = true := by
  rw [List.take_succ_eq_append_getElem hk, List.map_append, List.all_append, hp]
  simp [h]

set_option maxHeartbeats 1000000 in
theorem eachRight_any (a : Option Addr) (len cap : Nat) (fs : List Fb) (w : World) (hrow : RowF w a fs) (hl : len ≤ fs.length) (hl' : fs.length ≤ len) (h1k : len ≤ 1000) (hL : ∀ f ∈ fs, f.Light) :
    Calls Try.prog 29 #[.slice a len cap] w fun e w' => e = .returned (.int .i64 (chk ((fs.map Fb.l).all rightF))) ∧ Below w.heap.size w w' := by
  go_enter Try.func29, Try.ntmps29
  go_wp2_with fail
  go_loopw [4, 5, 8] (fun _ _ i wr => ∃ k : Nat, k ≤ len ∧ i = .int .i64 k ∧ Hid (((fs.take k).map Fb.l).all rightF = true) ∧ Below w.heap.size w wr) (fun _ _ i _ => len - (intOf i).toNat)
  case atStart => exact ⟨0, Nat.zero_le _, rfl, hide rfl, Below.refl _ _⟩
  case round =>
    obtain ⟨k, hk, rfl, HK, hbw⟩ := hrel
    by_cases hlt : k < len
    · obtain ⟨b, o, ha, hbl, c0, c1, hin⟩ := (hrow.on hbw).up (show k < fs.length by omega)
      subst ha
      have lf := hL fs[k] (List.getElem_mem (by omega))
      have hbx : Below w.heap.size w (wr.alloc (bxO fs[k])) := hbw.alloc hbw.size _
      have hin' : fs[k].In (wr.alloc (bxO fs[k])) := hin.on ((Below.refl _ _).alloc (Nat.le_refl _) _)
      cases hr : rightF fs[k].l with
      | false =>
        have HF := hide (chk_f (allF_get (show k < fs.length by omega) hr))
        go_wp2_with fail
        refine (fcheck_x fs[k] 1 _ hin' lf (hide (chk_f hr))).mono ?_
        rintro e w2 ⟨rfl, hb2⟩
        clear hr
        go_wp2_with fail
        go_ret
        exact ⟨ret_int (unhide HF).symm, bt hbx hb2⟩
      | true =>
        have HN := hide (allF_take (show k < fs.length by omega) hr (unhide HK))
        go_wp2_with fail
        refine (fcheck_x fs[k] 0 _ hin' lf (hide (chk_t hr))).mono ?_
        rintro e w2 ⟨rfl, hb2⟩
        clear hr
        go_wp2_with fail
        go_roundw
        case rel => exact ⟨k + 1, by omega, by go_num, HN, bt hbx hb2⟩
        case measure => simp [intOf]; omega
    · have ht : (fs.map Fb.l).all rightF = true := by
        have := unhide HK
        rwa [List.take_of_length_le (by omega)] at this
      have HF := hide (chk_t ht)
      clear ht
      go_wp2_with fail
      go_ret
      exact ⟨ret_int (unhide HF).symm, hbw⟩

theorem riseB_iff {α : Type} {f : α → α → Int} : ∀ {l : List α}, riseB f l = true ↔ ∀ i (h : i + 1 < l.length), f l[i] l[i + 1] < 0
  | [] => by simp [riseB]
  | [_] => by simp [riseB]
  | a :: b :: r => by
    simp only [riseB, Bool.and_eq_true, decide_eq_true_eq]
    rw [riseB_iff (l := b :: r)]
    constructor
    · rintro ⟨h0, h1⟩ i hi
      match i with
      | 0 => exact h0
      | i + 1 => exact h1 i (by simpa using hi)
    · intro h
      exact ⟨h 0 (by simp), fun i hi => h (i + 1) (by simpa using hi)⟩
theorem riseF_f {fs : List Fb} {j : Nat} (hj : j + 1 < fs.length) (h : ¬ cmpF fs[j].l fs[j + 1].l < 0) : riseB cmpF (fs.map Fb.l) = false := by
  rw [← Bool.not_eq_true, riseB_iff]
  intro hh
  have := hh j (by simpa using hj)
  simp only [List.getElem_map] at this
  exact h this

set_option maxHeartbeats 2000000 in
theorem eachRises_any (a : Option Addr) (len cap : Nat) (fs : List Fb) (w : World) (hrow : RowF w a fs) (hl : len ≤ fs.length) (hl' : fs.length ≤ len) (h1k : len ≤ 1000) (hL : ∀ f ∈ fs, f.Light) :
    Calls Try.prog 40 #[.slice a len cap] w fun e w' => e = .returned (.int .i64 (chk (riseB cmpF (fs.map Fb.l)))) ∧ Below w.heap.size w w' := by
  have hdr := in_drew
  go_enter Try.func40, Try.ntmps40
  go_wp2_with fail
  go_loopw [3] (fun i wr => ∃ k : Nat, 1 ≤ k ∧ k ≤ len + 1 ∧ i = .int .i64 k ∧ Hid (∀ i (h : i + 1 < fs.length), i + 1 < k → cmpF fs[i].l fs[i + 1].l < 0) ∧ Below w.heap.size w wr) (fun i _ => len + 1 - (intOf i).toNat)
  case atStart => exact ⟨1, Nat.le_refl _, by omega, rfl, hide (by intro i _ h; omega), Below.refl _ _⟩
  case round =>
    obtain ⟨k, hk1, hk, rfl, HK, hbw⟩ := hrel
    by_cases hlt : k < len
    · obtain ⟨j, hjk⟩ : ∃ j, k = j + 1 := ⟨k - 1, by omega⟩
      obtain ⟨b, o, ha, hbl, c0, c1, hin⟩ := (hrow.on hbw).up (show j < fs.length by omega)
      subst ha
      obtain ⟨b', o', ha', hbl', c0', c1', hin'⟩ := (hrow.on hbw).up (show k < fs.length by omega)
      simp only [Option.some.injEq, Addr.mk.injEq, and_true] at ha'
      obtain ⟨rfl, rfl⟩ := ha'
      have lf := hL fs[j] (List.getElem_mem (by omega))
      have e0 : (k : Int) - 1 = (j : Int) := by omega
      have e4 : IntKind.i64.wrap (j : Int) = (j : Int) := by simp [IntKind.wrap, IntKind.bits, IntKind.signed]; omega
      have e2 : (j : Int) < (len : Int) := by omega
      have e3 : (0 : Int) ≤ (j : Int) := by omega
      have HN : Hid (cmpF fs[j].l fs[k].l < 0 → Hid (∀ i (h : i + 1 < fs.length), i + 1 < k + 1 → cmpF fs[i].l fs[i + 1].l < 0)) := by
        refine hide (fun hz => hide (fun i h hi => ?_))
        by_cases hij : i + 1 < k
        · exact unhide HK i h hij
        · have : i = j := by omega
          subst this
          subst hjk
          exact hz
      have HF : Hid (¬ cmpF fs[j].l fs[k].l < 0 → Hid (chk (riseB cmpF (fs.map Fb.l)) = 1)) := by
        refine hide (fun hz => ?_)
        subst hjk
        exact hide <| chk_f (riseF_f (fs := fs) (j := j) (by omega) hz)
      generalize fs[j] = x at c0 c1 hin lf HN HF
      generalize fs[k] = y at c0' c1' hin' HN HF
      clear hjk
      go_wp2_with fail
      go_region_held3 (fun w' => w'.cell? ⟨b, o + j * 2, none⟩ = some (.string x.n) ∧ w'.cell? ⟨b, o + j * 2 + 1, none⟩ = some (.slice x.a x.len x.cap) ∧ w'.cell? ⟨b, o + k * 2, none⟩ = some (.string y.n) ∧ w'.cell? ⟨b, o + k * 2 + 1, none⟩ = some (.slice y.a y.len y.cap) ∧ x.In w' ∧ y.In w') (go_keep) (first | (go_at_call 27; refine (compare_k _ _ _ (by simp [*]) (by simp [*]) (by have := lf.len; omega)).mono ?_; rintro e w' ⟨rfl, hb, hk, hi⟩))
      have hbw' : Below w.heap.size w w' := bt hbw.drew hb
      clear c0 c1 c0' c1' hi e0 e4 e2 e3
      by_cases hz : cmpF x.l y.l < 0
      · have HN' := unhide HN hz
        have hz' : ¬ (0 ≤ cmpF x.l y.l) := by omega
        clear HN HF
        go_wp2_with fail
        go_roundw
        case rel => exact ⟨k + 1, by omega, by omega, by go_num, HN', hbw'⟩
        case measure => simp [intOf]; omega
      · have HN' := unhide HF (by omega)
        have hz' : 0 ≤ cmpF x.l y.l := by omega
        clear HN HF
        go_wp2_with fail
        go_ret
        exact ⟨ret_int (unhide HN').symm, hbw'⟩
    · have HN : Hid (chk (riseB cmpF (fs.map Fb.l)) = 0) := by
        refine hide (chk_t (riseB_iff.2 (fun i hi => ?_)))
        simp only [List.length_map] at hi
        simp only [List.getElem_map]
        exact unhide HK i hi (by omega)
      go_wp2_with fail
      go_ret
      exact ⟨ret_int (unhide HN).symm, hbw⟩

set_option maxHeartbeats 1000000 in
theorem orE_any (x y : Int) (b : Nat) (w : World) (h0 : w.cell? ⟨b, 0, none⟩ = some (.int .i64 x)) (h1 : w.cell? ⟨b, 1, none⟩ = some (.int .i64 y)) :
    Calls Try.prog 31 #[.slice (some ⟨b, 0, none⟩) 2 2] w fun e w' => e = .returned (.int .i64 (or2 x y)) ∧ w' = w := by
  go_enter Try.func31, Try.ntmps31
  go_wp2
  go_loop [5, 8] (fun _ i => ∃ k : Nat, k ≤ 2 ∧ i = .int .i64 k ∧ Hid ((1 ≤ k → x = 0) ∧ (2 ≤ k → y = 0))) (fun _ i => 2 - (intOf i).toNat)
  case atStart => exact ⟨0, by omega, rfl, by refine ⟨?_, ?_⟩ <;> (intro h; omega)⟩
  case round =>
    obtain ⟨k, hk, rfl, HK⟩ := hrel
    have hkc : k = 0 ∨ k = 1 ∨ k = 2 := by omega
    rcases hkc with rfl | rfl | rfl
    · by_cases hx : x = 0
      · have c0 : (x != 0) = false := by simp [hx]
        have HX := hide hx
        clear hx
        go_wp2
        go_round
        case rel => exact ⟨1, by omega, by go_num, by refine ⟨?_, ?_⟩; (intro _; exact unhide HX); (intro h; omega)⟩
        case measure => simp [intOf]
      · have c0 : (x != 0) = true := by simp [hx]
        go_wp2
        go_ret
        exact ⟨ret_int (by rw [or2_x hx]), rfl⟩
    · have hx : x = 0 := (unhide HK).1 (by omega)
      have HX := hide hx
      clear hx
      by_cases hy : y = 0
      · have c0 : (y != 0) = false := by simp [hy]
        have HY := hide hy
        clear hy
        go_wp2
        go_round
        case rel => exact ⟨2, by omega, by go_num, by refine ⟨?_, ?_⟩; (intro _; exact unhide HX); (intro _; exact unhide HY)⟩
        case measure => simp [intOf]
      · have c0 : (y != 0) = true := by simp [hy]
        go_wp2
        go_ret
        exact ⟨ret_int (by rw [unhide HX, or2_y]), rfl⟩
    · go_wp2
      go_ret
      exact ⟨ret_int (by rw [(unhide HK).1 (by omega), (unhide HK).2 (by omega), or2_y]), rfl⟩

theorem orE_at (x y : Int) (b : Nat) (W : World) (hb : W.heap.size = b) :
    Calls Try.prog 31 #[.slice (some ⟨b, 0, none⟩) 2 2] (W.alloc (.cells #[.int .i64 x, .int .i64 y] 29)) fun e w' => e = .returned (.int .i64 (or2 x y)) ∧ w' = (W.alloc (.cells #[.int .i64 x, .int .i64 y] 29)) := by
  subst hb
  have hk : (W.alloc (.cells #[.int .i64 x, .int .i64 y] 29)).heap[W.heap.size]? = some (.cells #[.int .i64 x, .int .i64 y] 29) := heap_alloc_new W _
  exact orE_any x y _ _ (by rw [Lib.cell_of_heap hk]; rfl) (by rw [Lib.cell_of_heap hk]; rfl)

/-- A right set. -/
def setB (l : List Fc) : Bool := l.all rightF && riseB cmpF l
theorem or2_chk (p q : Bool) : or2 (chk p) (chk q) = chk (p && q) := by
  cases p <;> cases q <;> rfl

set_option maxHeartbeats 1000000 in
theorem scheck_any (a : Option Addr) (len cap : Nat) (fs : List Fb) (w : World) (hrow : RowF w a fs) (hl : len ≤ fs.length) (hl' : fs.length ≤ len) (h1k : len ≤ 1000) (hL : ∀ f ∈ fs, f.Light) :
    Calls Try.prog 21 #[.slice a len cap] w fun e w' => e = .returned (.int .i64 (chk (setB (fs.map Fb.l)))) ∧ Below w.heap.size w w' := by
  have HR : Hid (or2 (chk ((fs.map Fb.l).all rightF)) (chk (riseB cmpF (fs.map Fb.l))) = chk (setB (fs.map Fb.l))) := hide (or2_chk _ _)
  have hc1 := eachRight_any a len cap fs w hrow hl hl' h1k hL
  generalize chk ((fs.map Fb.l).all rightF) = x at HR hc1
  have hc2 := fun W h => eachRises_any a len cap fs W h hl hl' h1k hL
  generalize chk (riseB cmpF (fs.map Fb.l)) = y at HR hc2
  go_enter Try.func21, Try.ntmps21
  go_wp2_with fail
  refine hc1.mono ?_
  rintro e w1 ⟨rfl, hb1⟩
  go_wp2_with fail
  refine (hc2 w1 (hrow.on hb1)).mono ?_
  rintro e w2 ⟨rfl, hb2⟩
  go_wp2_with fail
  refine (orE_at _ _ _ _ rfl).mono ?_
  rintro e w3 ⟨rfl, hw3⟩
  subst w3
  go_wp2_with fail
  go_ret
  exact ⟨ret_int (unhide HR), (bt hb1 hb2).alloc (bt hb1 hb2).size _⟩

theorem cmp_same (x y : Fc) : (cmpF x y == 0) = decide (x = y) := by
  by_cases h : x = y
  · subst h; simp [self_zero ord_fact x]
  · have : cmpF x y ≠ 0 := fun e => h ((ord_fact.zero x y).1 e)
    simp [h, this]

set_option maxHeartbeats 1000000 in
theorem alike_any (f g : Fb) (q : Bool) (w : World) (hf : f.In w) (hg : g.In w) (h20 : f.len ≤ 1000) (H : Hid (decide (f.l = g.l) = q)) :
    Calls Try.prog 36 #[.agg #[.string f.n, .slice f.a f.len f.cap], .agg #[.string g.n, .slice g.a g.len g.cap]] w fun e w' => e = .returned (.bool q) ∧ Below w.heap.size w w' := by
  have hby : Below w.heap.size w ((w.alloc (bxO f)).alloc (bxO g)) := ((Below.refl _ _).alloc (Nat.le_refl _) _).alloc (by simp) _
  have HC := hide ((cmp_same f.l g.l).trans (unhide H))
  go_enter Try.func36, Try.ntmps36
  go_wp2_with fail
  refine (fcompare_fb f g _ (hf.on hby) (hg.on hby) h20).mono ?_
  rintro e w1 ⟨rfl, hb1⟩
  have hw1 := bt hby hb1
  clear hby hb1
  go_wp2_with fail
  go_ret
  exact ⟨ret_bool' (unhide HC), hw1⟩

set_option maxHeartbeats 1000000 in
theorem hasFn_any (f g : Fb) (b : Nat) (q : Bool) (w : World) (hf : f.In w) (hg : g.In w) (h0 : w.cell? ⟨b, 0, none⟩ = some (.string g.n)) (h1 : w.cell? ⟨b, 1, none⟩ = some (.slice g.a g.len g.cap)) (h20 : f.len ≤ 1000) (H : Hid (decide (f.l = g.l) = q)) :
    Calls Try.prog 35 #[.agg #[.string f.n, .slice f.a f.len f.cap], .pointer (some ⟨b, 0, none⟩)] w fun e w' => e = .returned (.bool q) ∧ Below w.heap.size w w' := by
  have hby : Below w.heap.size w (w.alloc (bxO f)) := (Below.refl _ _).alloc (Nat.le_refl _) _
  have hlt := cell_lt h0
  go_enter Try.func35, Try.ntmps35
  go_wp2_with fail
  refine (alike_any f g q _ (hf.on hby) (hg.on hby) h20 H).mono ?_
  rintro e w1 ⟨rfl, hb1⟩
  have hw1 := bt hby hb1
  clear hby hb1
  go_wp2_with fail
  go_ret
  exact ⟨rfl, hw1⟩

/-- An index, or one that is below 0 where there is none. -/
def IdxRes (ls : List Fc) (x : Fc) (e : Ending) : Prop := ∃ i : Int, e = .returned (.int .i64 i) ∧ ((0 ≤ i) ↔ x ∈ ls)

set_option maxHeartbeats 1000000 in
theorem index_any (a : Option Addr) (len cap : Nat) (fs : List Fb) (g : Fb) (b : Nat) (w : World) (hrow : RowF w a fs) (hg : g.In w) (h0 : w.cell? ⟨b, 0, none⟩ = some (.string g.n)) (h1 : w.cell? ⟨b, 1, none⟩ = some (.slice g.a g.len g.cap)) (hl : len ≤ fs.length) (hl' : fs.length ≤ len) (h1k : len ≤ 1000) (hL : ∀ f ∈ fs, f.len ≤ 1000) :
    Calls Try.prog 53 #[.slice a len cap, .func (.func 35) #[] #[.pointer (some ⟨b, 0, none⟩)]] w fun e w' => IdxRes (fs.map Fb.l) g.l e ∧ Below w.heap.size w w' := by
  go_enter Try.func53, Try.ntmps53
  go_wp2_with fail
  go_loopw [5, 8] (fun _ i wr => ∃ k : Nat, k ≤ len ∧ i = .int .i64 k ∧ Hid (∀ j (h : j < fs.length), j < k → fs[j].l ≠ g.l) ∧ Below w.heap.size w wr) (fun _ i _ => len - (intOf i).toNat)
  case atStart => exact ⟨0, Nat.zero_le _, rfl, hide (by intro j _ h; omega), Below.refl _ _⟩
  case round =>
    obtain ⟨k, hk, rfl, HK, hbw⟩ := hrel
    by_cases hlt : k < len
    · obtain ⟨b', o, ha, hbl, c0, c1, hin⟩ := (hrow.on hbw).up (show k < fs.length by omega)
      subst ha
      have lf := hL fs[k] (List.getElem_mem (by omega))
      by_cases hz : fs[k].l = g.l
      · have HM : Hid (g.l ∈ fs.map Fb.l) := hide (List.mem_map.2 ⟨fs[k], List.getElem_mem (by omega), hz⟩)
        go_wp2_with fail
        refine (hasFn_any fs[k] g b true wr hin (hg.on hbw) (cell_on hbw h0) (cell_on hbw h1) lf (hide (by simp [hz]))).mono ?_
        rintro e w1 ⟨rfl, hb1⟩
        clear hz
        go_wp2_with fail
        go_ret
        exact ⟨⟨k, rfl, fun _ => unhide HM, fun _ => by omega⟩, bt hbw hb1⟩
      · have HN : Hid (∀ j (h : j < fs.length), j < k + 1 → fs[j].l ≠ g.l) := by
          refine hide (fun j h hj => ?_)
          by_cases hjk : j < k
          · exact unhide HK j h hjk
          · have : j = k := by omega
            subst this
            exact hz
        go_wp2_with fail
        refine (hasFn_any fs[k] g b false wr hin (hg.on hbw) (cell_on hbw h0) (cell_on hbw h1) lf (hide (by simp [hz]))).mono ?_
        rintro e w1 ⟨rfl, hb1⟩
        clear hz
        go_wp2_with fail
        go_roundw
        case rel => exact ⟨k + 1, by omega, by go_num, HN, bt hbw hb1⟩
        case measure => simp [intOf]; omega
    · go_wp2_with fail
      go_ret
      refine ⟨⟨-1, rfl, fun h => by omega, fun h => ?_⟩, hbw⟩
      obtain ⟨f, hf, he⟩ := List.mem_map.1 h
      obtain ⟨j, hj, rfl⟩ := List.getElem_of_mem hf
      exact absurd he (unhide HK j hj (by omega))

set_option maxHeartbeats 1000000 in
theorem contains_any (a : Option Addr) (len cap : Nat) (fs : List Fb) (g : Fb) (b : Nat) (q : Bool) (w : World) (hrow : RowF w a fs) (hg : g.In w) (h0 : w.cell? ⟨b, 0, none⟩ = some (.string g.n)) (h1 : w.cell? ⟨b, 1, none⟩ = some (.slice g.a g.len g.cap)) (hl : len ≤ fs.length) (hl' : fs.length ≤ len) (h1k : len ≤ 1000) (hL : ∀ f ∈ fs, f.len ≤ 1000) (H : Hid (decide (g.l ∈ fs.map Fb.l) = q)) :
    Calls Try.prog 34 #[.slice a len cap, .func (.func 35) #[] #[.pointer (some ⟨b, 0, none⟩)]] w fun e w' => e = .returned (.bool q) ∧ Below w.heap.size w w' := by
  go_enter Try.func34, Try.ntmps34
  go_wp2_with fail
  refine (index_any a len cap fs g b w hrow hg h0 h1 hl hl' h1k hL).mono ?_
  rintro e w1 ⟨⟨i, rfl, hi⟩, hb1⟩
  have hd : decide (0 ≤ i) = q := by rw [← unhide H]; simp [hi]
  clear hi h0 h1
  go_wp2_with fail
  go_ret
  exact ⟨rfl, hb1⟩

set_option maxHeartbeats 1000000 in
theorem has_any (a : Option Addr) (len cap : Nat) (fs : List Fb) (g : Fb) (q : Bool) (w : World) (hrow : RowF w a fs) (hg : g.In w) (hl : len ≤ fs.length) (hl' : fs.length ≤ len) (h1k : len ≤ 1000) (hL : ∀ f ∈ fs, f.len ≤ 1000) (H : Hid (decide (g.l ∈ fs.map Fb.l) = q)) :
    Calls Try.prog 15 #[.slice a len cap, .agg #[.string g.n, .slice g.a g.len g.cap]] w fun e w' => e = .returned (.bool q) ∧ Below w.heap.size w w' := by
  have hby : Below w.heap.size w (w.alloc (bxO g)) := (Below.refl _ _).alloc (Nat.le_refl _) _
  obtain ⟨c0, c1⟩ := pair_of (heap_alloc_new w (bxO g))
  go_enter Try.func15, Try.ntmps15
  go_wp2_with fail
  refine (contains_any a len cap fs g w.heap.size q _ (hrow.on hby) (hg.on hby) c0 c1 hl hl' h1k hL H).mono ?_
  rintro e w1 ⟨rfl, hb1⟩
  clear c0 c1
  go_wp2_with fail
  go_ret
  exact ⟨rfl, bt hby hb1⟩
end Go.Proofs.Ytmnonjacomabbaa

/- What the law's Spoil leaves: all blocks but those of what is spoilt. -/
import Derived.Test.YtmnonjacomabbaaSetN
import Derived.Test.YtmnonjacomabbaaSetR
namespace Go.Proofs.Ytmnonjacomabbaa
open Go.RowKit
open V

/-- Only blocks from B on, ahead of C, may have turned. -/
structure Sw (B C : Nat) (w w' : World) : Prop where
  b : Below B w w'
  size : w'.heap.size = w.heap.size
  up : ∀ k, C ≤ k → w'.heap[k]? = w.heap[k]?
theorem Sw.refl (B C : Nat) (w : World) : Sw B C w w := ⟨Below.refl _ _, rfl, fun _ _ => rfl⟩
theorem Sw.set {B C : Nat} {a w : World} (h : Sw B C a w) {g : Nat} (hB : B ≤ g) (hC : g < C) (o : Nat) (u : Value) : Sw B C a (w.setCell ⟨g, o, none⟩ u) :=
  ⟨h.b.setCell (p := ⟨g, o, none⟩) hB u, by rw [← h.size]; simp, fun k hk => (Below.heap_setCell w ⟨g, o, none⟩ u k (by show k ≠ g; omega)).trans (h.up k hk)⟩
/-- What lies wholly behind C stands. -/
theorem own_sw {B C B' : Nat} {w w' : World} {e : TypeId} {s : Nat} {v : Value} {n : Nat} {xs : List Value} (h : w.ownsRow B' e s v n xs) (hs : Sw B C w w') (hC : C ≤ B') : w'.ownsRow B' e s v n xs := by
  refine ⟨h.1, ?_⟩
  rcases h.2 with h | ⟨g, cap, cur, hv, hb, hg, r⟩
  · exact Or.inl h
  · exact Or.inr ⟨g, cap, cur, hv, hb, by rw [hs.up g (by omega)]; exact hg, r⟩
theorem Told.sw {B C B' : Nat} {w w' : World} {a : Option Addr} {n cap : Nat} {gs : List Fb} {l : List Fc} (h : Told B' w a n cap gs l) (hs : Sw B C w w') (hC : C ≤ B') : Told B' w' a n cap gs l :=
  ⟨⟨own_sw h.made.own hs hC, fun g hg => ⟨own_sw (h.made.new g hg).own hs hC, (h.made.new g hg).len⟩, h.made.len⟩, h.light, h.eq⟩

/-- A row that can be written: from block B on, of elements of type T. -/
def Shape2 (B C : Nat) (w : World) (T sz : Nat) (a : Option Addr) (n : Nat) : Prop := n = 0 ∨ ∃ g cur, a = some ⟨g, 0, none⟩ ∧ B ≤ g ∧ g < C ∧ w.heap[g]? = some (.cells cur T (0, 0)) ∧ n * sz ≤ cur.size
theorem Shape2.set {B C : Nat} {w : World} {T sz : Nat} {a : Option Addr} {n : Nat} (h : Shape2 B C w T sz a n) (b o : Nat) (u : Value) : Shape2 B C (w.setCell ⟨b, o, none⟩ u) T sz a n := by
  rcases h with h | ⟨g, cur, ha, hB, hC, hg, hs⟩
  · exact Or.inl h
  · by_cases e : b = g
    · subst e
      exact Or.inr ⟨b, _, ha, hB, hC, heap_setCell_same w b o cur T u hg, by simpa using hs⟩
    · exact Or.inr ⟨g, cur, ha, hB, hC, by rw [heap_setCell_other w ⟨b, o, none⟩ g u (fun e' => e e'.symm)]; exact hg, hs⟩
theorem shape2_own {B C : Nat} {w0 w : World} {T : TypeId} {sz : Nat} {a : Option Addr} {n cap : Nat} {xs : List Value} (h0 : w0.ownsRow B T sz (.slice a n cap) n xs) (hC : w0.heap.size ≤ C) (h : w.ownsRow B T sz (.slice a n cap) n xs) : Shape2 B C w T sz a n := by
  rcases h.2 with ⟨_, hz⟩ | ⟨g, cap', cur, hv, hB, hg, hc1, _, hc3, _⟩
  · exact Or.inl hz
  · simp only [Value.slice.injEq] at hv
    obtain ⟨rfl, _, rfl⟩ := hv
    exact Or.inr ⟨g, cur, rfl, hB, by have := (h0.lt g rfl).2; omega, hg, by rw [hc3]; exact Nat.mul_le_mul_right _ hc1⟩
/-- What Spoil leans on while it writes. -/
structure Sp2 (B C : Nat) (w : World) (g n : Nat) (gs : List Fb) : Prop where
  row : Shape2 B C w 25 2 (some ⟨g, 0, none⟩) n
  args : ∀ f ∈ gs, Shape2 B C w 47 3 f.a f.len
  head : ∀ (i : Nat) (f : Fb), gs[i]? = some f → w.cell? ⟨g, i * 2 + 1, none⟩ = some (.slice f.a f.len f.cap)
theorem Sp2.setArg {B C : Nat} {w : World} {g n : Nat} {gs : List Fb} (h : Sp2 B C w g n gs) {b : Nat} (hne : b ≠ g) (o : Nat) (u : Value) : Sp2 B C (w.setCell ⟨b, o, none⟩ u) g n gs :=
  ⟨h.row.set b o u, fun f hf => (h.args f hf).set b o u, fun i f hf => by rw [cell_other (Or.inl hne)]; exact h.head i f hf⟩
theorem Sp2.setName {B C : Nat} {w : World} {g n : Nat} {gs : List Fb} (h : Sp2 B C w g n gs) (k : Nat) (u : Value) : Sp2 B C (w.setCell ⟨g, k * 2, none⟩ u) g n gs :=
  ⟨h.row.set g _ u, fun f hf => (h.args f hf).set g _ u, fun i f hf => by rw [cell_other (Or.inr (by omega))]; exact h.head i f hf⟩

set_option maxHeartbeats 4000000 in
theorem spoil2_some (B C g n cap : Nat) (gs : List Fb) (w : World) (hS : Sp2 B C w g n gs) (hn1 : n ≤ gs.length) (hn2 : gs.length ≤ n) (h1k : n ≤ 1000) (hl : ∀ f ∈ gs, f.len ≤ 1000) :
    Calls Try.prog 24 #[.slice (some ⟨g, 0, none⟩) n cap] w fun e w' => e = .returned (.tuple #[]) ∧ Sw B C w w' := by
  go_enter Try.func24, Try.ntmps24
  go_wp2_with fail
  go_loopw [2, 3] (fun i _ wr => ∃ k : Nat, k ≤ n ∧ i = .int .i64 k ∧ Sp2 B C wr g n gs ∧ Sw B C w wr) (fun i _ _ => n - (intOf i).toNat)
  case atStart => exact ⟨0, Nat.zero_le _, rfl, hS, Sw.refl _ _ _⟩
  case round =>
    clear hS
    obtain ⟨k, hk, rfl, hS, hb⟩ := hrel
    by_cases hlt : k < n
    · have hget : gs[k]? = some gs[k] := by simp [show k < gs.length by omega]
      have HG : Hid (∃ f, gs[k]? = some f ∧ f ∈ gs) := hide ⟨gs[k], hget, List.getElem_mem (by omega)⟩
      obtain ⟨f, hgf, hfm⟩ := unhide HG
      clear hget HG
      have hfl := hl f hfm
      obtain ⟨fn, fa, fl, fc, fv⟩ := f
      have HGF := hide hgf
      have HFM := hide hfm
      clear hgf hfm
      have c1 := hS.head k _ (unhide HGF)
      simp only at c1 hfl
      go_wp2_with fail
      clear c1
      go_loopw [3] (fun j wq => ∃ t : Nat, t ≤ fl ∧ j = .int .i64 t ∧ Sp2 B C wq g n gs ∧ Sw B C w wq) (fun j _ => fl - (intOf j).toNat)
      case atStart => exact ⟨0, Nat.zero_le _, rfl, hS, hb⟩
      case round =>
        clear hS hb
        obtain ⟨t, ht, rfl, hS, hb⟩ := hrel
        have c1 := hS.head k _ (unhide HGF)
        simp only at c1
        by_cases htl : t < fl
        · rcases hS.args _ (unhide HFM) with h0 | ⟨gf, cur, ha, hB, hC, hg, hs⟩
          · simp only at h0; omega
          · simp only at ha hs
            subst ha
            obtain ⟨v0, d0⟩ := shape_cell hg (show t * 3 < cur.size by omega)
            obtain ⟨v1, d1⟩ := shape_cell hg (show t * 3 + 1 < cur.size by omega)
            obtain ⟨v2, d2⟩ := shape_cell hg (show t * 3 + 2 < cur.size by omega)
            have z0 : wr.frozen? ⟨gf, t * 3, none⟩ = false := Lib.frozen_of_heap hg _
            have z1 : wr.frozen? ⟨gf, t * 3 + 1, none⟩ = false := Lib.frozen_of_heap hg _
            have z2 : wr.frozen? ⟨gf, t * 3 + 2, none⟩ = false := Lib.frozen_of_heap hg _
            have hne : gf ≠ g := by
              rcases hS.row with h0 | ⟨g', cur', ha', _, _, hg', _⟩
              · omega
              · simp only [Option.some.injEq, Addr.mk.injEq, and_true] at ha'
                obtain ⟨rfl, _⟩ := ha'
                intro e
                subst e
                rw [hg] at hg'
                simp at hg'
            have hS' := ((hS.setArg hne (t * 3) (.int .i64 9)).setArg hne (t * 3 + 1) (.int .i64 7)).setArg hne (t * 3 + 2) (.string ⟨#[]⟩)
            have hb' := ((hb.set hB hC (t * 3) (.int .i64 9)).set hB hC (t * 3 + 1) (.int .i64 7)).set hB hC (t * 3 + 2) (.string ⟨#[]⟩)
            clear hg hs hS hb hne
            go_wp2_with fail
            go_roundw
            case rel => exact ⟨t + 1, by omega, by go_num, hS', hb'⟩
            case measure => simp [intOf]; omega
        · rcases hS.row with h0 | ⟨g', cur', ha', hB', hC', hg', hs'⟩
          · omega
          · simp only [Option.some.injEq, Addr.mk.injEq, and_true] at ha'
            obtain ⟨rfl, _⟩ := ha'
            obtain ⟨v0, d0⟩ := shape_cell hg' (show k * 2 < cur'.size by omega)
            have z0 : wr.frozen? ⟨g, k * 2, none⟩ = false := Lib.frozen_of_heap hg' _
            have hS' := hS.setName k (.string ⟨#[115, 112, 111, 105, 108, 116]⟩)
            have hb' := hb.set hB' hC' (k * 2) (.string ⟨#[115, 112, 111, 105, 108, 116]⟩)
            clear hg' hs' hS hb
            go_wp2_with fail
            go_roundw
            case rel => exact ⟨k + 1, by omega, by go_num, hS', hb'⟩
            case measure => simp [intOf]; omega
    · go_wp2_with fail
      go_end0
      exact ⟨rfl, hb⟩

set_option maxHeartbeats 1000000 in
theorem spoil2_none (B C cap : Nat) (a : Option Addr) (w : World) :
    Calls Try.prog 24 #[.slice a 0 cap] w fun e w' => e = .returned (.tuple #[]) ∧ Sw B C w w' := by
  go_enter Try.func24, Try.ntmps24
  go_wp2_with fail
  go_loopw [2, 3] (fun i _ wr => i = .int .i64 0 ∧ Sw B C w wr) (fun _ _ _ => 0)
  case atStart => exact ⟨rfl, Sw.refl _ _ _⟩
  case round =>
    obtain ⟨rfl, hb⟩ := hrel
    go_wp2_with fail
    go_end0
    exact ⟨rfl, hb⟩

/-- What is told is new memory: to spoil it leaves all below and all behind as it was. -/
theorem spoil2_told {B C : Nat} {a : Option Addr} {n cap : Nat} {gs : List Fb} {l : List Fc} (w0 w : World) (h0 : Told B w0 a n cap gs l) (hC : w0.heap.size ≤ C) (h : Told B w a n cap gs l) (h1k : n ≤ 1000) :
    Calls Try.prog 24 #[.slice a n cap] w fun e w' => e = .returned (.tuple #[]) ∧ Sw B C w w' := by
  rcases shape2_own h0.made.own hC h.made.own with hz | ⟨g, cur, ha, hB, hC', hg, hs⟩
  · subst hz; exact spoil2_none B C cap a w
  · subst ha
    refine spoil2_some B C g n cap gs w ⟨shape2_own h0.made.own hC h.made.own, fun f hf => shape2_own (h0.made.new f hf).own hC (h.made.new f hf).own, fun i f hf => ?_⟩ (by rw [h.len]; omega) (by rw [h.len]; omega) h1k (fun f hf => by have := (h.light f hf).len; omega)
    have := h.row.at hf
    exact this.2.1

theorem told_none (B : Nat) (w : World) : Told B w none 0 0 [] [] := ⟨⟨World.ownsRow_nil _ _ _ _, by simp, rfl⟩, by simp, rfl⟩
/-- sets.Of, right or not. -/
theorem of_any (p : Bool) (a : Option Addr) (len cap : Nat) (fs : List Fb) (w : World) (hrow : RowF w a fs) (hl : len = fs.length) (h1k : len ≤ 1000) (hL : ∀ f ∈ fs, f.Light) (hnil : a = none → cap = 0) (hr : (fs.map Fb.l).all rightF = p) :
    Calls Try.prog 11 #[.slice a len cap] w fun e w' => ∃ (a' : Option Addr) (n c : Nat) (gs : List Fb), e = .returned (.tuple #[.slice a' n c, .int .i64 (chk p)]) ∧ Told w.heap.size w' a' n c gs (if p then ofL cmpF (fs.map Fb.l) else []) ∧ Below w.heap.size w w' := by
  cases p with
  | true => exact of_ok a len cap fs w hrow hl h1k hL hnil (hide hr)
  | false =>
    refine (of_bad a len cap fs w hrow hl h1k hL (hide hr)).mono ?_
    rintro e w' ⟨rfl, hb⟩
    exact ⟨none, 0, 0, [], rfl, told_none _ _, hb⟩
theorem put_any (r q : Bool) (a : Option Addr) (len cap : Nat) (fs : List Fb) (f : Fb) (w : World) (hrow : RowF w a fs) (hf : f.In w) (hl : len = fs.length) (h1k : len ≤ 400) (hcap : len ≤ cap) (hL : ∀ f ∈ fs, f.Light) (lf : f.Light) (h1 : setB (fs.map Fb.l) = r) (h2 : rightF f.l = q) :
    Calls Try.prog 12 #[.slice a len cap, .agg #[.string f.n, .slice f.a f.len f.cap]] w fun e w' => ∃ (a' : Option Addr) (n c : Nat) (gs : List Fb), e = .returned (.tuple #[.slice a' n c, .int .i64 (chk (r && q))]) ∧ Told w.heap.size w' a' n c gs (if r && q then putL cmpF (fs.map Fb.l) f.l else []) ∧ Below w.heap.size w w' := by
  have HX : Hid (chk (setB (fs.map Fb.l)) = chk r) := hide (by rw [h1])
  have HY : Hid (chk (rightF f.l) = chk q) := hide (by rw [h2])
  cases hrq : (r && q) with
  | true =>
    simp only [Bool.and_eq_true] at hrq
    obtain ⟨rfl, rfl⟩ := hrq
    exact put_ok a len cap fs f 0 0 w hrow hf (by omega) (by omega) h1k hcap hL lf HX HY (hide rfl) (hide (set_rise h1))
  | false =>
    refine (put_bad a len cap fs f (chk r) (chk q) w hrow hf (by omega) (by omega) (by omega) hL lf HX HY (hide (by rw [or2_chk, hrq]; rfl))).mono ?_
    rintro e w' ⟨rfl, hb⟩
    exact ⟨none, 0, 0, [], rfl, told_none _ _, hb⟩
theorem drop_any (r q : Bool) (a : Option Addr) (len cap : Nat) (fs : List Fb) (f : Fb) (w : World) (hrow : RowF w a fs) (hf : f.In w) (hl : len = fs.length) (h1k : len ≤ 400) (hcap : len ≤ cap) (hL : ∀ f ∈ fs, f.Light) (lf : f.Light) (h1 : setB (fs.map Fb.l) = r) (h2 : rightF f.l = q) :
    Calls Try.prog 13 #[.slice a len cap, .agg #[.string f.n, .slice f.a f.len f.cap]] w fun e w' => ∃ (a' : Option Addr) (n c : Nat) (gs : List Fb), e = .returned (.tuple #[.slice a' n c, .int .i64 (chk (r && q))]) ∧ Told w.heap.size w' a' n c gs (if r && q then dropL (fs.map Fb.l) f.l else []) ∧ Below w.heap.size w w' := by
  have HX : Hid (chk (setB (fs.map Fb.l)) = chk r) := hide (by rw [h1])
  have HY : Hid (chk (rightF f.l) = chk q) := hide (by rw [h2])
  cases hrq : (r && q) with
  | true =>
    simp only [Bool.and_eq_true] at hrq
    obtain ⟨rfl, rfl⟩ := hrq
    exact drop_ok a len cap fs f 0 0 w hrow hf (by omega) (by omega) h1k hcap hL lf HX HY (hide rfl) (hide (set_rise h1))
  | false =>
    refine (drop_bad a len cap fs f (chk r) (chk q) w hrow hf (by omega) (by omega) (by omega) hL lf HX HY (hide (by rw [or2_chk, hrq]; rfl))).mono ?_
    rintro e w' ⟨rfl, hb⟩
    exact ⟨none, 0, 0, [], rfl, told_none _ _, hb⟩
theorem both_any (r q : Bool) (a a' : Option Addr) (len cap len' cap' : Nat) (fs gs : List Fb) (w : World) (hrow : RowF w a fs) (hrow' : RowF w a' gs) (hl : len = fs.length) (hl' : len' = gs.length) (h1k : len ≤ 500) (h1k' : len' ≤ 500) (hL : ∀ f ∈ fs, f.Light) (hL' : ∀ f ∈ gs, f.Light) (hnil : a = none → cap = 0) (hnil' : a' = none → cap' = 0) (h1 : setB (fs.map Fb.l) = r) (h2 : setB (gs.map Fb.l) = q) :
    Calls Try.prog 14 #[.slice a len cap, .slice a' len' cap'] w fun e w' => ∃ (x : Option Addr) (n c : Nat) (hs : List Fb), e = .returned (.tuple #[.slice x n c, .int .i64 (chk (r && q))]) ∧ Told w.heap.size w' x n c hs (if r && q then ofL cmpF (fs.map Fb.l ++ gs.map Fb.l) else []) ∧ Below w.heap.size w w' := by
  cases hrq : (r && q) with
  | true => exact both_ok a a' len cap len' cap' fs gs w hrow hrow' hl hl' h1k h1k' hL hL' hnil hnil' (hide (by rw [h1, h2, hrq]))
  | false =>
    refine (both_bad a a' len cap len' cap' fs gs w hrow hrow' hl hl' (by omega) (by omega) hL hL' (hide (by rw [h1, h2, hrq]))).mono ?_
    rintro e w' ⟨rfl, hb⟩
    exact ⟨none, 0, 0, [], rfl, told_none _ _, hb⟩
end Go.Proofs.Ytmnonjacomabbaa

/- What fact.isKept and fact.Name answer; what a row of values, a row of facts is in memory. -/
import Derived.Test.YtmoalmpcobljkaaFactP
import Derived.Test.YtmoalmpcobljkaaOwnF
namespace Go.Proofs.Ytmoalmpcobljkaa
open Go.RowKit
open V

theorem eqL_f {s : ByteArray} {l : List UInt8} (h : s.data.toList ≠ l) : (s.toList == l) = false := by
  rw [ByteArray.toList_eq]; exact beq_eq_false_iff_ne.2 h
theorem eqL_t {s : ByteArray} {l : List UInt8} (h : s.data.toList = l) : (s.toList == l) = true := by
  rw [ByteArray.toList_eq]; exact beq_iff_eq.2 h

theorem words_cases (l : List UInt8) : wordsL.contains l = false ∧ (l ≠ [102, 97, 99, 116] ∧ l ≠ [114, 117, 108, 101] ∧ l ≠ [112, 97, 116, 116, 101, 114, 110] ∧ l ≠ [110, 111, 116] ∧ l ≠ [97, 110, 100] ∧ l ≠ [111, 114] ∧ l ≠ [98, 101, 102, 111, 114, 101] ∧ l ≠ [111, 110, 99, 101] ∧ l ≠ [97, 108, 119, 97, 121, 115] ∧ l ≠ [115, 105, 110, 99, 101] ∧ l ≠ [100, 114, 111, 112]) ∨ wordsL.contains l = true ∧ (l = [102, 97, 99, 116] ∨ l = [114, 117, 108, 101] ∨ l = [112, 97, 116, 116, 101, 114, 110] ∨ l = [110, 111, 116] ∨ l = [97, 110, 100] ∨ l = [111, 114] ∨ l = [98, 101, 102, 111, 114, 101] ∨ l = [111, 110, 99, 101] ∨ l = [97, 108, 119, 97, 121, 115] ∨ l = [115, 105, 110, 99, 101] ∨ l = [100, 114, 111, 112]) := by
  cases h : wordsL.contains l with
  | false =>
    left
    refine ⟨rfl, ?_⟩
    simp [wordsL] at h
    exact h
  | true =>
    right
    refine ⟨rfl, ?_⟩
    simp [wordsL] at h
    exact h

set_option maxHeartbeats 1000000 in
theorem isKept_any (s : ByteArray) (w : World) :
    Calls Try.prog 44 #[.string s] w fun e w' => e = .returned (.bool (wordsL.contains s.data.toList)) ∧ w' = w := by
  rcases words_cases s.data.toList with ⟨hc, h0, h1, h2, h3, h4, h5, h6, h7, h8, h9, h10⟩ | ⟨hc, h⟩
  · rw [hc]
    have e0 := eqL_f h0
    have e1 := eqL_f h1
    have e2 := eqL_f h2
    have e3 := eqL_f h3
    have e4 := eqL_f h4
    have e5 := eqL_f h5
    have e6 := eqL_f h6
    have e7 := eqL_f h7
    have e8 := eqL_f h8
    have e9 := eqL_f h9
    have e10 := eqL_f h10
    clear hc h0 h1 h2 h3 h4 h5 h6 h7 h8 h9 h10
    go_enter Try.func44, Try.ntmps44
    go_wp2_with fail
    go_ret
    exact ⟨rfl, rfl⟩
  · rw [hc]
    clear hc
    rcases h with h | h | h | h | h | h | h | h | h | h | h
    · have hs : s = ⟨#[102, 97, 99, 116]⟩ := by rw [← Lib.mk_data s, h]
      subst hs
      clear h
      go_enter Try.func44, Try.ntmps44
      go_wp2_with fail
      go_ret
      exact ⟨rfl, rfl⟩
    · have hs : s = ⟨#[114, 117, 108, 101]⟩ := by rw [← Lib.mk_data s, h]
      subst hs
      clear h
      go_enter Try.func44, Try.ntmps44
      go_wp2_with fail
      go_ret
      exact ⟨rfl, rfl⟩
    · have hs : s = ⟨#[112, 97, 116, 116, 101, 114, 110]⟩ := by rw [← Lib.mk_data s, h]
      subst hs
      clear h
      go_enter Try.func44, Try.ntmps44
      go_wp2_with fail
      go_ret
      exact ⟨rfl, rfl⟩
    · have hs : s = ⟨#[110, 111, 116]⟩ := by rw [← Lib.mk_data s, h]
      subst hs
      clear h
      go_enter Try.func44, Try.ntmps44
      go_wp2_with fail
      go_ret
      exact ⟨rfl, rfl⟩
    · have hs : s = ⟨#[97, 110, 100]⟩ := by rw [← Lib.mk_data s, h]
      subst hs
      clear h
      go_enter Try.func44, Try.ntmps44
      go_wp2_with fail
      go_ret
      exact ⟨rfl, rfl⟩
    · have hs : s = ⟨#[111, 114]⟩ := by rw [← Lib.mk_data s, h]
      subst hs
      clear h
      go_enter Try.func44, Try.ntmps44
      go_wp2_with fail
      go_ret
      exact ⟨rfl, rfl⟩
    · have hs : s = ⟨#[98, 101, 102, 111, 114, 101]⟩ := by rw [← Lib.mk_data s, h]
      subst hs
      clear h
      go_enter Try.func44, Try.ntmps44
      go_wp2_with fail
      go_ret
      exact ⟨rfl, rfl⟩
    · have hs : s = ⟨#[111, 110, 99, 101]⟩ := by rw [← Lib.mk_data s, h]
      subst hs
      clear h
      go_enter Try.func44, Try.ntmps44
      go_wp2_with fail
      go_ret
      exact ⟨rfl, rfl⟩
    · have hs : s = ⟨#[97, 108, 119, 97, 121, 115]⟩ := by rw [← Lib.mk_data s, h]
      subst hs
      clear h
      go_enter Try.func44, Try.ntmps44
      go_wp2_with fail
      go_ret
      exact ⟨rfl, rfl⟩
    · have hs : s = ⟨#[115, 105, 110, 99, 101]⟩ := by rw [← Lib.mk_data s, h]
      subst hs
      clear h
      go_enter Try.func44, Try.ntmps44
      go_wp2_with fail
      go_ret
      exact ⟨rfl, rfl⟩
    · have hs : s = ⟨#[100, 114, 111, 112]⟩ := by rw [← Lib.mk_data s, h]
      subst hs
      clear h
      go_enter Try.func44, Try.ntmps44
      go_wp2_with fail
      go_ret
      exact ⟨rfl, rfl⟩

theorem chk_t {b : Bool} (h : b = true) : chk b = 0 := by rw [h]; rfl
theorem chk_f {b : Bool} (h : b = false) : chk b = 1 := by rw [h]; rfl

set_option maxHeartbeats 1000000 in
theorem name_any (s : ByteArray) (w : World) (hs : s.size ≤ maxLen) :
    Calls Try.prog 31 #[.string s] w fun e w' => e = .returned (.bool (nameB s.data.toList)) ∧ Below w.heap.size w w' := by
  have hr : rightB 2 0 s.data.toList = symB s.data.toList := by simp [rightB]
  cases hb : symB s.data.toList with
  | false =>
    have hn : nameB s.data.toList = false := by simp [nameB, hb]
    rw [hn]
    have hc : chk (rightB 2 0 s.data.toList) = 1 := chk_f (by rw [hr, hb])
    clear hn hr
    go_enter Try.func31, Try.ntmps31
    go_wp2_with (go_at_call 33; refine (check_any _ _ _ _ hs).mono ?_; rintro e w1 ⟨rfl, hb1⟩; rw [hc])
    go_ret
    exact ⟨rfl, hb1⟩
  | true =>
    have hn : nameB s.data.toList = !wordsL.contains s.data.toList := by simp [nameB, hb]
    rw [hn]
    have hc : chk (rightB 2 0 s.data.toList) = 0 := chk_t (by rw [hr, hb])
    clear hn hr
    have hk := fun w => isKept_any s w
    generalize wordsL.contains s.data.toList = q at hk ⊢
    go_enter Try.func31, Try.ntmps31
    go_wp2_with (first | (go_at_call 33; refine (check_any _ _ _ _ hs).mono ?_; rintro e w1 ⟨rfl, hb1⟩; rw [hc]) | (go_at_call 44; refine (hk _).mono ?_; rintro e w2 ⟨rfl, rfl⟩))
    go_ret
    exact ⟨rfl, hb1⟩

/-- A value, as it lies in memory. -/
structure Vb where
  k : Int
  n : Int
  s : ByteArray
def Vb.l (v : Vb) : Vl := (v.k, v.n, v.s.data.toList)

/-- A row of values lies at a. -/
def RowV (w : World) (a : Option Addr) (vs : List Vb) : Prop :=
  vs = [] ∨ ∃ b o, a = some ⟨b, o, none⟩ ∧ b < w.heap.size ∧ ∀ (i : Nat) (v : Vb), vs[i]? = some v →
    w.cell? ⟨b, o + i * 3, none⟩ = some (.int .i64 v.k) ∧ w.cell? ⟨b, o + i * 3 + 1, none⟩ = some (.int .i64 v.n) ∧ w.cell? ⟨b, o + i * 3 + 2, none⟩ = some (.string v.s)

theorem RowV.on {w w' : World} {a : Option Addr} {vs : List Vb} (h : RowV w a vs) (hb : Below w.heap.size w w') : RowV w' a vs := by
  rcases h with h | ⟨b, o, ha, hlt, hc⟩
  · exact Or.inl h
  · refine Or.inr ⟨b, o, ha, by have := hb.size; omega, fun i v hv => ?_⟩
    obtain ⟨h0, h1, h2⟩ := hc i v hv
    exact ⟨(hb.cell (p := ⟨b, _, none⟩) hlt).trans h0, (hb.cell (p := ⟨b, _, none⟩) hlt).trans h1, (hb.cell (p := ⟨b, _, none⟩) hlt).trans h2⟩
theorem RowV.up {w : World} {a : Option Addr} {vs : List Vb} {i : Nat} (h : RowV w a vs) (hi : i < vs.length) : ∃ b o, a = some ⟨b, o, none⟩ ∧ b < w.heap.size ∧
    w.cell? ⟨b, o + i * 3, none⟩ = some (.int .i64 vs[i].k) ∧ w.cell? ⟨b, o + i * 3 + 1, none⟩ = some (.int .i64 vs[i].n) ∧ w.cell? ⟨b, o + i * 3 + 2, none⟩ = some (.string vs[i].s) := by
  rcases h with h | ⟨b, o, ha, hlt, hc⟩
  · subst h; simp at hi
  · exact ⟨b, o, ha, hlt, hc i vs[i] (by simp [hi])⟩

/-- A fact, as it lies in memory: its name, where its arguments lie, and what these are. -/
structure Fb where
  n : ByteArray
  a : Option Addr
  len : Nat
  cap : Nat
  vs : List Vb
def Fb.l (f : Fb) : Fc := (f.n.data.toList, f.vs.map Vb.l)
def Fb.val (f : Fb) : Value := .agg #[.string f.n, .slice f.a f.len f.cap]
/-- The fact's arguments lie there. -/
structure Fb.In (f : Fb) (w : World) : Prop where
  row : RowV w f.a f.vs
  len : f.len = f.vs.length
theorem Fb.In.on {f : Fb} {w w' : World} (h : f.In w) (hb : Below w.heap.size w w') : f.In w' := ⟨h.row.on hb, h.len⟩

/-- A row of facts lies at a. -/
def RowF (w : World) (a : Option Addr) (fs : List Fb) : Prop :=
  (∀ f ∈ fs, f.In w) ∧ (fs = [] ∨ ∃ b o, a = some ⟨b, o, none⟩ ∧ b < w.heap.size ∧ ∀ (i : Nat) (f : Fb), fs[i]? = some f →
    w.cell? ⟨b, o + i * 2, none⟩ = some (.string f.n) ∧ w.cell? ⟨b, o + i * 2 + 1, none⟩ = some (.slice f.a f.len f.cap))
theorem RowF.on {w w' : World} {a : Option Addr} {fs : List Fb} (h : RowF w a fs) (hb : Below w.heap.size w w') : RowF w' a fs := by
  refine ⟨fun f hf => (h.1 f hf).on hb, ?_⟩
  rcases h.2 with h | ⟨b, o, ha, hlt, hc⟩
  · exact Or.inl h
  · refine Or.inr ⟨b, o, ha, by have := hb.size; omega, fun i v hv => ?_⟩
    obtain ⟨h0, h1⟩ := hc i v hv
    exact ⟨(hb.cell (p := ⟨b, _, none⟩) hlt).trans h0, (hb.cell (p := ⟨b, _, none⟩) hlt).trans h1⟩
theorem RowF.up {w : World} {a : Option Addr} {fs : List Fb} {i : Nat} (h : RowF w a fs) (hi : i < fs.length) : ∃ b o, a = some ⟨b, o, none⟩ ∧ b < w.heap.size ∧
    w.cell? ⟨b, o + i * 2, none⟩ = some (.string fs[i].n) ∧ w.cell? ⟨b, o + i * 2 + 1, none⟩ = some (.slice fs[i].a fs[i].len fs[i].cap) ∧ fs[i].In w := by
  have hin := h.1 fs[i] (List.getElem_mem hi)
  rcases h.2 with h | ⟨b, o, ha, hlt, hc⟩
  · subst h; simp at hi
  · obtain ⟨h0, h1⟩ := hc i fs[i] (by simp [hi])
    exact ⟨b, o, ha, hlt, h0, h1, hin⟩
end Go.Proofs.Ytmoalmpcobljkaa

/- What val.Text answers. -/
import Derived.Test.YtbdfdpioegjfhaaDoorOwnC
import Derived.Test.YtbdfdpioegjfhaaDoorOwnM
import Derived.Lib.SmallJoins
import Derived.Lib.AppendIntMem
namespace Go.Proofs.YtbdfdpioegjfhaaDoor
open Go.RowKit
open V

/-- What the package variables hold, as far as the calls read them. -/
structure Env (w : World) : Prop where
  tab : Lib.TabIs Tryd.prog w "internal/strconv.uint64pow10" .u64 Lib.pow10Tab

theorem var_keep {w w' : World} {n : String} {cs : Array Value} (hb : Below w.heap.size w w') (h : w.var? Tryd.prog n = some cs) : w'.var? Tryd.prog n = some cs := by
  unfold World.var? at h ⊢
  cases hg : Tryd.prog.globalNamed n with
  | none => rw [hg] at h; simp at h
  | some g =>
    rw [hg] at h
    simp only [Option.bind_some] at h ⊢
    by_cases hlt : g < w.heap.size
    · rw [hb.block g hlt]; exact h
    · rw [Array.getElem?_eq_none (by omega)] at h; simp at h

theorem Env.on {w w' : World} (h : Env w) (hb : Below w.heap.size w w') : Env w' := by
  exact ⟨var_keep hb h.tab⟩

theorem itoa_any (n : Int) (h0 : -9223372036854775808 ≤ n) (h1 : n ≤ 9223372036854775807) (w : World) (he : Env w) :
    Calls Tryd.prog 41 #[.int .i64 n] w fun e w' => e = .returned (.string ⟨(Lib.itoa n).toArray⟩) ∧ Below w.heap.size w w' := by
  refine (Tryd.strconv_Itoa n h0 h1 w he.tab).mono ?_
  rintro e w' ⟨rfl, k, os, rfl⟩
  exact ⟨rfl, Lib.below_grow _ _ (Nat.le_refl _) k os⟩

set_option maxHeartbeats 400000 in
theorem clone_any (s : ByteArray) (w : World) (hs : s.size ≤ 1000) :
    Calls Tryd.prog 42 #[.string s] w fun e w' => e = .returned (.string s) ∧ Below w.heap.size w w' := by
  go_enter Tryd.func42, Tryd.ntmps42
  go_wp2_with (go_at_call 55; refine (Tryd.stringslite_Clone _ _ (by omega)).mono ?_; rintro e w' ⟨rfl, hb⟩)
  go_ret
  exact ⟨rfl, hb⟩

theorem bcell {W w1 : World} (hb : Below W.heap.size W w1) : (∀ b o, b < W.heap.size → w1.cell? ⟨b, o, none⟩ = W.cell? ⟨b, o, none⟩) ∧ (∀ b o, b < W.heap.size → w1.frozen? ⟨b, o, none⟩ = W.frozen? ⟨b, o, none⟩) :=
  ⟨fun b o h => hb.cell (p := ⟨b, o, none⟩) h, fun b o h => hb.frozen (p := ⟨b, o, none⟩) h⟩

theorem size_box {w w1 : World} {o : Obj} (hb : Below (w.alloc o).heap.size (w.alloc o) w1) : w.heap.size ≤ w1.heap.size := by have := hb.size; simp at this; omega
theorem below_box {w w1 : World} {o : Obj} (hb : Below (w.alloc o).heap.size (w.alloc o) w1) : Below w.heap.size w w1 :=
  ((Below.refl _ _).alloc (Nat.le_refl _) _).trans (hb.mono (by simp))

set_option maxHeartbeats 1000000 in
theorem text_bad (k n : Int) (s : ByteArray) (w : World) (hs : s.size ≤ maxLen) (hr : rightB k n s.data.toList = false) :
    Calls Tryd.prog 22 #[.agg #[.int .i64 k, .int .i64 n, .string s]] w fun e w' => e = .returned (.tuple #[.string ⟨#[]⟩, .int .i64 1]) ∧ Below w.heap.size w w' := by
  have hc : chk (rightB k n s.data.toList) = 1 := by rw [hr]; rfl
  go_enter Tryd.func22, Tryd.ntmps22
  go_wp2_with (go_at_call 25; refine (check_any _ _ _ _ hs).mono ?_; rintro e w1 ⟨rfl, hb⟩; rw [hc])
  go_ret2
  exact ⟨rfl, below_box hb⟩

theorem ret_ss {a b : ByteArray} {n : Int} (h : a = b) : Ending.returned (.tuple #[.string a, .int .i64 n]) = .returned (.tuple #[.string b, .int .i64 n]) := by rw [h]
theorem str_of (s : ByteArray) : (⟨s.data.toList.toArray⟩ : ByteArray) = s := Lib.mk_data s

set_option maxHeartbeats 1000000 in
theorem text_ok (k n : Int) (s : ByteArray) (w : World) (hs : s.size ≤ 1000) (he : Env w) (hr : rightB k n s.data.toList = true) :
    Calls Tryd.prog 22 #[.agg #[.int .i64 k, .int .i64 n, .string s]] w fun e w' => e = .returned (.tuple #[.string ⟨(textL k n s.data.toList).toArray⟩, .int .i64 0]) ∧ Below w.heap.size w w' := by
  have hc : chk (rightB k n s.data.toList) = 0 := by rw [hr]; rfl
  have hs' : s.size ≤ maxLen := by unfold maxLen; omega
  by_cases k1 : k = 1
  · subst k1
    have hnb : -4611686018427387904 ≤ n ∧ n ≤ 4611686018427387904 := by simp [rightB] at hr; exact hr.2
    obtain ⟨n0, n1⟩ := hnb
    clear hr
    go_enter Tryd.func22, Tryd.ntmps22
    go_wp2_with (go_at_call 25; refine (check_any _ _ _ _ hs').mono ?_; rintro e w1 ⟨rfl, hb⟩; rw [hc]; obtain ⟨hcl, hfr⟩ := bcell hb; refine Hid.out ?_)
    refine Lib.hid ?_
    have he1 := he.on (below_box hb)
    go_wp2_with (go_at_call 41; refine (itoa_any _ (by omega) (by omega) _ he1).mono ?_; rintro e w2 ⟨rfl, hb2⟩)
    go_ret2
    exact ⟨rfl, (below_box hb).trans (hb2.mono (size_box hb))⟩
  · have b1 : (k == 1) = false := beq_eq_false_iff_ne.2 k1
    by_cases k2 : k = 2
    · subst k2
      have HT : Hid (s = ⟨(textL 2 n s.data.toList).toArray⟩) := by
        show _ = _
        have : textL 2 n s.data.toList = s.data.toList := by simp [textL]
        rw [this, str_of]
      clear hr k1
      go_enter Tryd.func22, Tryd.ntmps22
      go_wp2_with (go_at_call 25; refine (check_any _ _ _ _ hs').mono ?_; rintro e w1 ⟨rfl, hb⟩; rw [hc]; obtain ⟨hcl, hfr⟩ := bcell hb; refine Hid.out ?_)
      refine Lib.hid ?_
      go_wp2_with (go_at_call 42; refine (clone_any _ _ hs).mono ?_; rintro e w2 ⟨rfl, hb2⟩)
      go_ret2
      exact ⟨ret_ss (unhide HT), (below_box hb).trans (hb2.mono (size_box hb))⟩
    · have b2 : (k == 2) = false := beq_eq_false_iff_ne.2 k2
      have HT : Hid (quoteL s.data.toList = textL k n s.data.toList) := by
        show _ = _
        simp [textL, k1, k2]
      clear hr k1 k2
      go_enter Tryd.func22, Tryd.ntmps22
      go_wp2_with (go_at_call 25; refine (check_any _ _ _ _ hs').mono ?_; rintro e w1 ⟨rfl, hb⟩; rw [hc]; obtain ⟨hcl, hfr⟩ := bcell hb; refine Hid.out ?_)
      refine Lib.hid ?_
      go_wp2_with (go_at_call 43; refine (quote_any _ _ hs).mono ?_; rintro e w2 ⟨rfl, hb2⟩)
      go_ret2
      exact ⟨ret_ss (by rw [unhide HT]), (below_box hb).trans (hb2.mono (size_box hb))⟩

theorem bt {a b c : World} (h : Below a.heap.size a b) (k : Below b.heap.size b c) : Below a.heap.size a c := h.trans (k.mono h.size)
end Go.Proofs.YtbdfdpioegjfhaaDoor

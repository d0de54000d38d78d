/- What val.Text and val.Parse answer. -/
import Derived.Test.YtcjnhhbcleljmaaGreatDoorOwnC
import Derived.Test.YtcjnhhbcleljmaaGreatDoorOwnM
import Derived.Lib.SmallJoins
import Derived.Lib.AppendIntMem
import Derived.Lib.AtoiErrMem
namespace Go.Proofs.YtcjnhhbcleljmaaGreatDoor
open Go.RowKit
open V

/-- What the package variables hold, as far as the calls read them. -/
structure Env (w : World) : Prop where
  tab : Lib.TabIs Tryz.prog w "internal/strconv.uint64pow10" .u64 Lib.pow10Tab
  syn : ∃ tp p, w.var? Tryz.prog "strconv.ErrSyntax" = some #[.iface tp p]
  rng : ∃ tp p, w.var? Tryz.prog "strconv.ErrRange" = some #[.iface tp p]

theorem var_keep {w w' : World} {n : String} {cs : Array Value} (hb : Below w.heap.size w w') (h : w.var? Tryz.prog n = some cs) : w'.var? Tryz.prog n = some cs := by
  unfold World.var? at h ⊢
  cases hg : Tryz.prog.globalNamed n with
  | none => rw [hg] at h; simp at h
  | some g =>
    rw [hg] at h
    simp only [Option.bind_some] at h ⊢
    by_cases hlt : g < w.heap.size
    · rw [hb.block g hlt]; exact h
    · rw [Array.getElem?_eq_none (by omega)] at h; simp at h

theorem Env.on {w w' : World} (h : Env w) (hb : Below w.heap.size w w') : Env w' := by
  obtain ⟨ht, ⟨a, p, hs⟩, ⟨b, q, hr⟩⟩ := h
  exact ⟨var_keep hb ht, ⟨a, p, var_keep hb hs⟩, ⟨b, q, var_keep hb hr⟩⟩

theorem itoa_any (n : Int) (h0 : -9223372036854775808 ≤ n) (h1 : n ≤ 9223372036854775807) (w : World) (he : Env w) :
    Calls Tryz.prog 49 #[.int .i64 n] w fun e w' => e = .returned (.string ⟨(Lib.itoa n).toArray⟩) ∧ Below w.heap.size w w' := by
  refine (Tryz.strconv_Itoa n h0 h1 w he.tab).mono ?_
  rintro e w' ⟨rfl, k, os, rfl⟩
  exact ⟨rfl, Lib.below_grow _ _ (Nat.le_refl _) k os⟩

set_option maxHeartbeats 400000 in
theorem clone_any (s : ByteArray) (w : World) (hs : s.size ≤ 20000) :
    Calls Tryz.prog 89 #[.string s] w fun e w' => e = .returned (.string s) ∧ Below w.heap.size w w' := by
  go_enter Tryz.func89, Tryz.ntmps89
  go_wp2_with (go_at_call 148; refine (Tryz.stringslite_Clone _ _ (by omega)).mono ?_; rintro e w' ⟨rfl, hb⟩)
  go_ret
  exact ⟨rfl, hb⟩

theorem bcell {W w1 : World} (hb : Below W.heap.size W w1) : (∀ b o, b < W.heap.size → w1.cell? ⟨b, o, none⟩ = W.cell? ⟨b, o, none⟩) ∧ (∀ b o, b < W.heap.size → w1.frozen? ⟨b, o, none⟩ = W.frozen? ⟨b, o, none⟩) :=
  ⟨fun b o h => hb.cell (p := ⟨b, o, none⟩) h, fun b o h => hb.frozen (p := ⟨b, o, none⟩) h⟩

theorem size_box {w w1 : World} {o : Obj} (hb : Below (w.alloc o).heap.size (w.alloc o) w1) : w.heap.size ≤ w1.heap.size := by have := hb.size; simp at this; omega
theorem below_box {w w1 : World} {o : Obj} (hb : Below (w.alloc o).heap.size (w.alloc o) w1) : Below w.heap.size w w1 :=
  ((Below.refl _ _).alloc (Nat.le_refl _) _).trans (hb.mono (by simp))

set_option maxHeartbeats 1000000 in
theorem text_bad (k n : Int) (s : ByteArray) (w : World) (hs : s.size ≤ maxLen) (hr : rightB k n s.data.toList = false) :
    Calls Tryz.prog 191 #[.agg #[.int .i64 k, .int .i64 n, .string s]] w fun e w' => e = .returned (.tuple #[.string ⟨#[]⟩, .int .i64 1]) ∧ Below w.heap.size w w' := by
  have hc : chk (rightB k n s.data.toList) = 1 := by rw [hr]; rfl
  go_enter Tryz.func191, Tryz.ntmps191
  go_wp2_with (go_at_call 144; refine (check_any _ _ _ _ hs).mono ?_; rintro e w1 ⟨rfl, hb⟩; rw [hc])
  go_ret2
  exact ⟨rfl, below_box hb⟩

theorem ret_ss {a b : ByteArray} {n : Int} (h : a = b) : Ending.returned (.tuple #[.string a, .int .i64 n]) = .returned (.tuple #[.string b, .int .i64 n]) := by rw [h]
theorem str_of (s : ByteArray) : (⟨s.data.toList.toArray⟩ : ByteArray) = s := Lib.mk_data s

set_option maxHeartbeats 1000000 in
theorem text_ok (k n : Int) (s : ByteArray) (w : World) (hs : s.size ≤ 20000) (he : Env w) (hr : rightB k n s.data.toList = true) :
    Calls Tryz.prog 191 #[.agg #[.int .i64 k, .int .i64 n, .string s]] w fun e w' => e = .returned (.tuple #[.string ⟨(textL k n s.data.toList).toArray⟩, .int .i64 0]) ∧ Below w.heap.size w w' := by
  have hc : chk (rightB k n s.data.toList) = 0 := by rw [hr]; rfl
  have hs' : s.size ≤ maxLen := by unfold maxLen; omega
  by_cases k1 : k = 1
  · subst k1
    have hnb : -4611686018427387904 ≤ n ∧ n ≤ 4611686018427387904 := by simp [rightB] at hr; exact hr.2
    obtain ⟨n0, n1⟩ := hnb
    clear hr
    go_enter Tryz.func191, Tryz.ntmps191
    go_wp2_with (go_at_call 144; refine (check_any _ _ _ _ hs').mono ?_; rintro e w1 ⟨rfl, hb⟩; rw [hc]; obtain ⟨hcl, hfr⟩ := bcell hb; refine Hid.out ?_)
    refine Lib.hid ?_
    have he1 := he.on (below_box hb)
    go_wp2_with (go_at_call 49; refine (itoa_any _ (by omega) (by omega) _ he1).mono ?_; rintro e w2 ⟨rfl, hb2⟩)
    go_ret2
    exact ⟨rfl, (below_box hb).trans (hb2.mono (size_box hb))⟩
  · have b1 : (k == 1) = false := beq_eq_false_iff_ne.2 k1
    by_cases k2 : k = 2
    · subst k2
      have HT : Hid (s = ⟨(textL 2 n s.data.toList).toArray⟩) := by
        show _ = _
        have : textL 2 n s.data.toList = s.data.toList := by simp [textL]
        rw [this, str_of]
      clear hr k1
      go_enter Tryz.func191, Tryz.ntmps191
      go_wp2_with (go_at_call 144; refine (check_any _ _ _ _ hs').mono ?_; rintro e w1 ⟨rfl, hb⟩; rw [hc]; obtain ⟨hcl, hfr⟩ := bcell hb; refine Hid.out ?_)
      refine Lib.hid ?_
      go_wp2_with (go_at_call 89; refine (clone_any _ _ hs).mono ?_; rintro e w2 ⟨rfl, hb2⟩)
      go_ret2
      exact ⟨ret_ss (unhide HT), (below_box hb).trans (hb2.mono (size_box hb))⟩
    · have b2 : (k == 2) = false := beq_eq_false_iff_ne.2 k2
      have HT : Hid (quoteL s.data.toList = textL k n s.data.toList) := by
        show _ = _
        simp [textL, k1, k2]
      clear hr k1 k2
      go_enter Tryz.func191, Tryz.ntmps191
      go_wp2_with (go_at_call 144; refine (check_any _ _ _ _ hs').mono ?_; rintro e w1 ⟨rfl, hb⟩; rw [hc]; obtain ⟨hcl, hfr⟩ := bcell hb; refine Hid.out ?_)
      refine Lib.hid ?_
      go_wp2_with (go_at_call 219; refine (quote_any _ _ hs).mono ?_; rintro e w2 ⟨rfl, hb2⟩)
      go_ret2
      exact ⟨ret_ss (by rw [unhide HT]), (below_box hb).trans (hb2.mono (size_box hb))⟩

theorem atoi_ok (s : ByteArray) (v : Int) (w : World) (hs : s.size ≤ 20000) (hx : Lib.atoiAll s.data.toList = .ok v) :
    Calls Tryz.prog 146 #[.string s] w fun e w' => e = .returned (.tuple #[.int .i64 v, .nilIface]) ∧ Below w.heap.size w w' := by
  refine (Tryz.strconv_Atoi_ok s (by omega) v hx w).mono ?_
  rintro e w' ⟨rfl, h⟩
  refine ⟨rfl, ?_⟩
  rcases h with rfl | ⟨t, rfl⟩
  · exact Below.refl _ _
  · exact Lib.bytesWorld_below _ _ _

/-- What is no numeral, or too great a one: an error. -/
theorem atoi_no (s : ByteArray) (w : World) (hs : s.size ≤ 20000) (he : Env w) (hx : ∀ v, Lib.atoiAll s.data.toList ≠ .ok v) :
    Calls Tryz.prog 146 #[.string s] w fun e w' => (∃ n t p, e = .returned (.tuple #[.int .i64 n, .iface t p])) ∧ Below w.heap.size w w' := by
  obtain ⟨ht, ⟨a, p, hsy⟩, ⟨b, q, hr⟩⟩ := he
  rcases hy : Lib.atoiAll s.data.toList with v | _ | _
  · exact absurd hy (hx v)
  · refine (Any.strconv_Atoi_syntax_var Tryz.laysC172 s (by omega) hy a p w hsy).mono ?_
    rintro e w' ⟨N, rfl, _, _, hb⟩
    exact ⟨⟨_, _, _, rfl⟩, hb⟩
  · refine (Tryz.strconv_Atoi_range_var s (by omega) hy b q w hr).mono ?_
    rintro e w' ⟨N, rfl, _, _, hb⟩
    exact ⟨⟨_, _, _, rfl⟩, hb⟩

theorem numL_ok {l : List UInt8} {v : Int} (h : Lib.atoiAll l = .ok v) : numL l = if Lib.itoa v = l then some v else none := by
  unfold numL; rw [h]
theorem numL_no {l : List UInt8} (h : ∀ v, Lib.atoiAll l ≠ .ok v) : numL l = none := by
  unfold numL
  split
  · rename_i v hv; exact absurd hv (h v)
  · rfl

set_option maxHeartbeats 1000000 in
theorem readNumber_any (s : ByteArray) (w : World) (hs : s.size ≤ 20000) (he : Env w) :
    Calls Tryz.prog 211 #[.string s] w fun e w' => (∃ n b, e = .returned (.tuple #[.int .i64 n, .bool b]) ∧ (b = true → numL s.data.toList = some n) ∧ (b = false → numL s.data.toList = none)) ∧ Below w.heap.size w w' := by
  by_cases hx : ∃ v, Lib.atoiAll s.data.toList = .ok v
  · obtain ⟨v, hv⟩ := hx
    obtain ⟨v0, v1⟩ := Lib.atoiAll_bounds hv
    have HV := hide hv
    have HN := hide (numL_ok hv)
    clear hv
    go_enter Tryz.func211, Tryz.ntmps211
    go_wp2_with (go_at_call 146; refine (atoi_ok s v _ hs (unhide HV)).mono ?_; rintro e w1 ⟨rfl, hb⟩; refine Hid.out ?_)
    have he1 := he.on hb
    refine Lib.hid ?_
    go_wp2_with (go_at_call 49; refine (itoa_any _ (by omega) (by omega) _ he1).mono ?_; rintro e w2 ⟨rfl, hb2⟩)
    go_ret2
    refine ⟨⟨_, _, rfl, fun h => ?_, fun h => ?_⟩, hb.trans (hb2.mono hb.size)⟩
    · rw [ByteArray.toList_eq, beq_iff_eq] at h
      rw [unhide HN, if_pos h]
    · rw [ByteArray.toList_eq, beq_eq_false_iff_ne] at h
      rw [unhide HN, if_neg h]
  · have hv : ∀ v, Lib.atoiAll s.data.toList ≠ .ok v := fun v h => hx ⟨v, h⟩
    have HV := hide hv
    clear hv hx
    go_enter Tryz.func211, Tryz.ntmps211
    go_wp2_with (go_at_call 146; refine (atoi_no s _ hs he (unhide HV)).mono ?_; rintro e w1 ⟨⟨n, t, p, rfl⟩, hb⟩)
    go_ret2
    exact ⟨⟨_, false, rfl, fun h => (by cases h), fun _ => numL_no (unhide HV)⟩, hb⟩

set_option maxHeartbeats 2000000 in
theorem unquote_any (s : ByteArray) (w : World) (hs : s.size ≤ 20000) :
    Calls Tryz.prog 210 #[.string s] w fun e w' => (∃ r b, e = .returned (.tuple #[.string ⟨r.toArray⟩, .bool b]) ∧ (b = true → unqL s.data.toList = some r) ∧ (b = false → unqL s.data.toList = none) ∧ r.length ≤ 40000) ∧ Below w.heap.size w w' := by
  by_cases h2 : s.size < 2
  · have hd : decide ((s.size : Int) - 1 < 1) = true := by simp; omega
    go_enter Tryz.func210, Tryz.ntmps210
    go_wp2
    go_ret2
    exact ⟨⟨[], false, rfl, fun h => (by cases h), fun _ => unqL_short s h2, by simp⟩, Below.refl _ _⟩
  · have hd : decide ((s.size : Int) - 1 < 1) = false := by simp; omega
    by_cases h0 : (s[0].toNat : Int) = 34
    · have b0 : ((s[0].toNat : Int) != 34) = false := by simp [h0]
      by_cases h1 : (s[s.size - 1].toNat : Int) = 34
      · have b1 : ((s[s.size - 1].toNat : Int) != 34) = false := by simp [h1]
        have HU := hide (unqL_of s (by omega) h0 h1)
        clear h0 h1
        go_enter Tryz.func210, Tryz.ntmps210
        go_wp2
        go_loopw [6] (fun i wr => ∃ (k : Nat) (acc : List UInt8), 1 ≤ k ∧ k ≤ s.size - 1 ∧ i = .int .i64 k ∧ acc.length ≤ 20000 + k ∧ Hid (unqIn (mid s 1) = (unqIn (mid s k)).map (acc ++ ·)) ∧ Lib.IsBuilder 197 5 w.heap.size w.heap.size (Lib.byteCells acc) wr ∧ Below w.heap.size w wr ∧ w.heap.size ≤ wr.heap.size) (fun i _ => s.size - (intOf i).toNat)
        case atStart => exact ⟨1, [], by omega, by omega, rfl, by simp, by show _ = _; simp, Lib.fresh_isBuilder 197 5 w, (Below.refl _ _).alloc (Nat.le_refl _) _, by simp⟩
        case round =>
          obtain ⟨k, acc, hk1, hk2, rfl, hac, HQ, hI, hbw, hBw⟩ := hrel
          by_cases hlt : k < s.size - 1
          · have hk : k < s.size := by omega
            have lt1 : decide ((k : Int) < (s.size : Int) - 1) = true := by simp; omega
            have hmc := mid_cons s k hlt
            by_cases c1 : (s[k].toNat : Int) = 34
            · have d1 : ((s[k].toNat : Int) == 34) = true := by simp [c1]
              have HR : Hid (unqL s.data.toList = none) := by
                show _ = _
                rw [unhide HU, unhide HQ, hmc, unqIn_quote c1]; rfl
              clear c1 hmc
              go_wp2
              go_ret2
              exact ⟨⟨[], false, rfl, fun h => (by cases h), fun _ => unhide HR, by simp⟩, hbw⟩
            · have d1 : ((s[k].toNat : Int) == 34) = false := by simp [c1]
              by_cases c2 : (s[k].toNat : Int) = 92
              · have d2 : ((s[k].toNat : Int) == 92) = true := by simp [c2]
                by_cases hla : k + 1 = s.size - 1
                · have l1 : ((k : Int) + 1 == (s.size : Int) - 1) = true := by rw [beq_iff_eq]; omega
                  have HR : Hid (unqL s.data.toList = none) := by
                    show _ = _
                    rw [unhide HU, unhide HQ, hmc, mid_nil s (k + 1) (by omega), unqIn_last c2]; rfl
                  clear c1 c2 hmc hla
                  go_wp2
                  go_ret2
                  exact ⟨⟨[], false, rfl, fun h => (by cases h), fun _ => unhide HR, by simp⟩, hbw⟩
                · have l1 : ((k : Int) + 1 == (s.size : Int) - 1) = false := by rw [beq_eq_false_iff_ne]; omega
                  have hk' : k + 1 < s.size := by omega
                  have hmd := mid_cons s (k + 1) (by omega)
                  cases ce : escB s[k + 1].toNat
                  · have HR : Hid (unqL s.data.toList = none) := by
                      show _ = _
                      rw [unhide HU, unhide HQ, hmc, hmd, unqIn_noesc c2 ce]; rfl
                    clear c1 c2 hmc hmd
                    go_wp2_with (go_at_call 229; refine (needsEscape_byte _ _).mono ?_; rintro e w2 ⟨rfl, rfl⟩)
                    go_ret2
                    exact ⟨⟨[], false, rfl, fun h => (by cases h), fun _ => unhide HR, by simp⟩, hbw⟩
                  · have HR : Hid (unqIn (mid s 1) = (unqIn (mid s (k + 2))).map ((acc ++ [s[k + 1]]) ++ ·)) := by
                      show _ = _
                      rw [unhide HQ, hmc, hmd, unqIn_esc c2 ce]
                      cases unqIn (mid s (k + 1 + 1)) <;> simp
                    clear c1 c2 hmc hmd
                    go_wp2_with (first | (go_at_call 229; refine (needsEscape_byte _ _).mono ?_; rintro e w2 ⟨rfl, rfl⟩) | (go_at_call 154; refine (writeByte_at w.heap.size w.heap.size _ s[k + 1] _ rfl _ hI (by omega) hBw).mono ?_; rintro e w2 ⟨rfl, h2, hb2, hB2⟩))
                    go_roundw
                    case rel => exact ⟨k + 2, acc ++ [s[k + 1]], by omega, by omega, by go_num, by simp; omega, HR, h2, hbw.trans hb2, hB2⟩
                    case measure => simp [intOf]; omega
              · have d2 : ((s[k].toNat : Int) == 92) = false := by simp [c2]
                have HR : Hid (unqIn (mid s 1) = (unqIn (mid s (k + 1))).map ((acc ++ [s[k]]) ++ ·)) := by
                  show _ = _
                  rw [unhide HQ, hmc, unqIn_plain c1 c2]
                  cases unqIn (mid s (k + 1)) <;> simp
                clear c1 c2 hmc
                go_wp2_with (go_at_call 154; refine (writeByte_at w.heap.size w.heap.size _ s[k] _ rfl _ hI (by omega) hBw).mono ?_; rintro e w2 ⟨rfl, h2, hb2, hB2⟩)
                go_roundw
                case rel => exact ⟨k + 1, acc ++ [s[k]], by omega, by omega, by go_num, by simp; omega, HR, h2, hbw.trans hb2, hB2⟩
                case measure => simp [intOf]; omega
          · have lt1 : decide ((k : Int) < (s.size : Int) - 1) = false := by simp; omega
            have HR : Hid (unqL s.data.toList = some acc) := by
              show _ = _
              rw [unhide HU, unhide HQ, mid_nil s k (by omega)]
              simp [unqIn]
            go_wp2_with (go_at_call 152; refine (Tryz.Builder_String_any w.heap.size w.heap.size acc _ hI hBw).mono ?_; rintro e w3 ⟨rfl, hb3⟩)
            go_ret2
            exact ⟨⟨acc, true, rfl, fun _ => unhide HR, fun h => (by cases h), by omega⟩, hbw.trans hb3⟩
      · have b1 : ((s[s.size - 1].toNat : Int) != 34) = true := by simp [h1]
        have HN := hide (unqL_tail s (by omega) h1)
        clear h0 h1
        go_enter Tryz.func210, Tryz.ntmps210
        go_wp2
        go_ret2
        exact ⟨⟨[], false, rfl, fun h => (by cases h), fun _ => unhide HN, by simp⟩, Below.refl _ _⟩
    · have b0 : ((s[0].toNat : Int) != 34) = true := by simp [h0]
      have HN := hide (unqL_head s (by omega) h0)
      clear h0
      go_enter Tryz.func210, Tryz.ntmps210
      go_wp2
      go_ret2
      exact ⟨⟨[], false, rfl, fun h => (by cases h), fun _ => unhide HN, by simp⟩, Below.refl _ _⟩
theorem bt {a b c : World} (h : Below a.heap.size a b) (k : Below b.heap.size b c) : Below a.heap.size a c := h.trans (k.mono h.size)
end Go.Proofs.YtcjnhhbcleljmaaGreatDoor

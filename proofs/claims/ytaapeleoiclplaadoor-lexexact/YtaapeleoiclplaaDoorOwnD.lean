/- What val.Text and val.Parse answer. -/
import Derived.Test.YtaapeleoiclplaaDoorOwnC
import Derived.Test.YtaapeleoiclplaaDoorOwnM
import Derived.Lib.SmallJoins
import Derived.Lib.AppendIntMem
import Derived.Lib.AtoiErrMem
namespace Go.Proofs.YtaapeleoiclplaaDoor
open Go.RowKit
open V

/-- What the package variables hold, as far as the calls read them. -/
structure Env (w : World) : Prop where
  tab : Lib.TabIs Tryd.prog w "internal/strconv.uint64pow10" .u64 Lib.pow10Tab
  syn : ∃ tp p, w.var? Tryd.prog "strconv.ErrSyntax" = some #[.iface tp p]
  rng : ∃ tp p, w.var? Tryd.prog "strconv.ErrRange" = some #[.iface tp p]

theorem var_keep {w w' : World} {n : String} {cs : Array Value} (hb : Below w.heap.size w w') (h : w.var? Tryd.prog n = some cs) : w'.var? Tryd.prog n = some cs := by
  unfold World.var? at h ⊢
  cases hg : Tryd.prog.globalNamed n with
  | none => rw [hg] at h; simp at h
  | some g =>
    rw [hg] at h
    simp only [Option.bind_some] at h ⊢
    by_cases hlt : g < w.heap.size
    · rw [hb.block g hlt]; exact h
    · rw [Array.getElem?_eq_none (by omega)] at h; simp at h

theorem Env.on {w w' : World} (h : Env w) (hb : Below w.heap.size w w') : Env w' := by
  obtain ⟨ht, ⟨a, p, hs⟩, ⟨b, q, hr⟩⟩ := h
  exact ⟨var_keep hb ht, ⟨a, p, var_keep hb hs⟩, ⟨b, q, var_keep hb hr⟩⟩

set_option maxHeartbeats 400000 in
theorem clone_any (s : ByteArray) (w : World) (hs : s.size ≤ 20000) :
    Calls Tryd.prog 17 #[.string s] w fun e w' => e = .returned (.string s) ∧ Below w.heap.size w w' := by
  go_enter Tryd.func17, Tryd.ntmps17
  go_wp2_with (go_at_call 37; refine (Tryd.stringslite_Clone _ _ (by omega)).mono ?_; rintro e w' ⟨rfl, hb⟩)
  go_ret
  exact ⟨rfl, hb⟩

theorem bcell {W w1 : World} (hb : Below W.heap.size W w1) : (∀ b o, b < W.heap.size → w1.cell? ⟨b, o, none⟩ = W.cell? ⟨b, o, none⟩) ∧ (∀ b o, b < W.heap.size → w1.frozen? ⟨b, o, none⟩ = W.frozen? ⟨b, o, none⟩) :=
  ⟨fun b o h => hb.cell (p := ⟨b, o, none⟩) h, fun b o h => hb.frozen (p := ⟨b, o, none⟩) h⟩

theorem size_box {w w1 : World} {o : Obj} (hb : Below (w.alloc o).heap.size (w.alloc o) w1) : w.heap.size ≤ w1.heap.size := by have := hb.size; simp at this; omega
theorem below_box {w w1 : World} {o : Obj} (hb : Below (w.alloc o).heap.size (w.alloc o) w1) : Below w.heap.size w w1 :=
  ((Below.refl _ _).alloc (Nat.le_refl _) _).trans (hb.mono (by simp))

theorem ret_ss {a b : ByteArray} {n : Int} (h : a = b) : Ending.returned (.tuple #[.string a, .int .i64 n]) = .returned (.tuple #[.string b, .int .i64 n]) := by rw [h]
theorem str_of (s : ByteArray) : (⟨s.data.toList.toArray⟩ : ByteArray) = s := Lib.mk_data s

theorem atoi_ok (s : ByteArray) (v : Int) (w : World) (hs : s.size ≤ 20000) (hx : Lib.atoiAll s.data.toList = .ok v) :
    Calls Tryd.prog 35 #[.string s] w fun e w' => e = .returned (.tuple #[.int .i64 v, .nilIface]) ∧ Below w.heap.size w w' := by
  refine (Tryd.strconv_Atoi_ok s (by omega) v hx w).mono ?_
  rintro e w' ⟨rfl, h⟩
  refine ⟨rfl, ?_⟩
  rcases h with rfl | ⟨t, rfl⟩
  · exact Below.refl _ _
  · exact Lib.bytesWorld_below _ _ _

/-- What is no numeral, or too great a one: an error. -/
theorem atoi_no (s : ByteArray) (w : World) (hs : s.size ≤ 20000) (he : Env w) (hx : ∀ v, Lib.atoiAll s.data.toList ≠ .ok v) :
    Calls Tryd.prog 35 #[.string s] w fun e w' => (∃ n t p, e = .returned (.tuple #[.int .i64 n, .iface t p])) ∧ Below w.heap.size w w' := by
  obtain ⟨ht, ⟨a, p, hsy⟩, ⟨b, q, hr⟩⟩ := he
  rcases hy : Lib.atoiAll s.data.toList with v | _ | _
  · exact absurd hy (hx v)
  · refine (Any.strconv_Atoi_syntax_var Tryd.laysC172 s (by omega) hy a p w hsy).mono ?_
    rintro e w' ⟨N, rfl, _, _, hb⟩
    exact ⟨⟨_, _, _, rfl⟩, hb⟩
  · refine (Tryd.strconv_Atoi_range_var s (by omega) hy b q w hr).mono ?_
    rintro e w' ⟨N, rfl, _, _, hb⟩
    exact ⟨⟨_, _, _, rfl⟩, hb⟩

set_option maxHeartbeats 2000000 in
theorem unquote_any (s : ByteArray) (w : World) (hs : s.size ≤ 20000) :
    Calls Tryd.prog 68 #[.string s] w fun e w' => (∃ r b, e = .returned (.tuple #[.string ⟨r.toArray⟩, .bool b]) ∧ (b = true → unqL s.data.toList = some r) ∧ (b = false → unqL s.data.toList = none) ∧ r.length ≤ 40000) ∧ Below w.heap.size w w' := by
  by_cases h2 : s.size < 2
  · have hd : decide ((s.size : Int) - 1 < 1) = true := by simp; omega
    go_enter Tryd.func68, Tryd.ntmps68
    go_wp2
    go_ret2
    exact ⟨⟨[], false, rfl, fun h => (by cases h), fun _ => unqL_short s h2, by simp⟩, Below.refl _ _⟩
  · have hd : decide ((s.size : Int) - 1 < 1) = false := by simp; omega
    by_cases h0 : (s[0].toNat : Int) = 34
    · have b0 : ((s[0].toNat : Int) != 34) = false := by simp [h0]
      by_cases h1 : (s[s.size - 1].toNat : Int) = 34
      · have b1 : ((s[s.size - 1].toNat : Int) != 34) = false := by simp [h1]
        have HU := hide (unqL_of s (by omega) h0 h1)
        clear h0 h1
        go_enter Tryd.func68, Tryd.ntmps68
        go_wp2
        go_loopw [6] (fun i wr => ∃ (k : Nat) (acc : List UInt8), 1 ≤ k ∧ k ≤ s.size - 1 ∧ i = .int .i64 k ∧ acc.length ≤ 20000 + k ∧ Hid (unqIn (mid s 1) = (unqIn (mid s k)).map (acc ++ ·)) ∧ Lib.IsBuilder 51 5 w.heap.size w.heap.size (Lib.byteCells acc) wr ∧ Below w.heap.size w wr ∧ w.heap.size ≤ wr.heap.size) (fun i _ => s.size - (intOf i).toNat)
        case atStart => exact ⟨1, [], by omega, by omega, rfl, by simp, by show _ = _; simp, Lib.fresh_isBuilder 51 5 w, (Below.refl _ _).alloc (Nat.le_refl _) _, by simp⟩
        case round =>
          obtain ⟨k, acc, hk1, hk2, rfl, hac, HQ, hI, hbw, hBw⟩ := hrel
          by_cases hlt : k < s.size - 1
          · have hk : k < s.size := by omega
            have lt1 : decide ((k : Int) < (s.size : Int) - 1) = true := by simp; omega
            have hmc := mid_cons s k hlt
            by_cases c1 : (s[k].toNat : Int) = 34
            · have d1 : ((s[k].toNat : Int) == 34) = true := by simp [c1]
              have HR : Hid (unqL s.data.toList = none) := by
                show _ = _
                rw [unhide HU, unhide HQ, hmc, unqIn_quote c1]; rfl
              clear c1 hmc
              go_wp2
              go_ret2
              exact ⟨⟨[], false, rfl, fun h => (by cases h), fun _ => unhide HR, by simp⟩, hbw⟩
            · have d1 : ((s[k].toNat : Int) == 34) = false := by simp [c1]
              by_cases c2 : (s[k].toNat : Int) = 92
              · have d2 : ((s[k].toNat : Int) == 92) = true := by simp [c2]
                by_cases hla : k + 1 = s.size - 1
                · have l1 : ((k : Int) + 1 == (s.size : Int) - 1) = true := by rw [beq_iff_eq]; omega
                  have HR : Hid (unqL s.data.toList = none) := by
                    show _ = _
                    rw [unhide HU, unhide HQ, hmc, mid_nil s (k + 1) (by omega), unqIn_last c2]; rfl
                  clear c1 c2 hmc hla
                  go_wp2
                  go_ret2
                  exact ⟨⟨[], false, rfl, fun h => (by cases h), fun _ => unhide HR, by simp⟩, hbw⟩
                · have l1 : ((k : Int) + 1 == (s.size : Int) - 1) = false := by rw [beq_eq_false_iff_ne]; omega
                  have hk' : k + 1 < s.size := by omega
                  have hmd := mid_cons s (k + 1) (by omega)
                  cases ce : escB s[k + 1].toNat
                  · have HR : Hid (unqL s.data.toList = none) := by
                      show _ = _
                      rw [unhide HU, unhide HQ, hmc, hmd, unqIn_noesc c2 ce]; rfl
                    clear c1 c2 hmc hmd
                    go_wp2_with (go_at_call 74; refine (needsEscape_byte _ _).mono ?_; rintro e w2 ⟨rfl, rfl⟩)
                    go_ret2
                    exact ⟨⟨[], false, rfl, fun h => (by cases h), fun _ => unhide HR, by simp⟩, hbw⟩
                  · have HR : Hid (unqIn (mid s 1) = (unqIn (mid s (k + 2))).map ((acc ++ [s[k + 1]]) ++ ·)) := by
                      show _ = _
                      rw [unhide HQ, hmc, hmd, unqIn_esc c2 ce]
                      cases unqIn (mid s (k + 1 + 1)) <;> simp
                    clear c1 c2 hmc hmd
                    go_wp2_with (first | (go_at_call 74; refine (needsEscape_byte _ _).mono ?_; rintro e w2 ⟨rfl, rfl⟩) | (go_at_call 21; refine (writeByte_at w.heap.size w.heap.size _ s[k + 1] _ rfl _ hI (by omega) hBw).mono ?_; rintro e w2 ⟨rfl, h2, hb2, hB2⟩))
                    go_roundw
                    case rel => exact ⟨k + 2, acc ++ [s[k + 1]], by omega, by omega, by go_num, by simp; omega, HR, h2, hbw.trans hb2, hB2⟩
                    case measure => simp [intOf]; omega
              · have d2 : ((s[k].toNat : Int) == 92) = false := by simp [c2]
                have HR : Hid (unqIn (mid s 1) = (unqIn (mid s (k + 1))).map ((acc ++ [s[k]]) ++ ·)) := by
                  show _ = _
                  rw [unhide HQ, hmc, unqIn_plain c1 c2]
                  cases unqIn (mid s (k + 1)) <;> simp
                clear c1 c2 hmc
                go_wp2_with (go_at_call 21; refine (writeByte_at w.heap.size w.heap.size _ s[k] _ rfl _ hI (by omega) hBw).mono ?_; rintro e w2 ⟨rfl, h2, hb2, hB2⟩)
                go_roundw
                case rel => exact ⟨k + 1, acc ++ [s[k]], by omega, by omega, by go_num, by simp; omega, HR, h2, hbw.trans hb2, hB2⟩
                case measure => simp [intOf]; omega
          · have lt1 : decide ((k : Int) < (s.size : Int) - 1) = false := by simp; omega
            have HR : Hid (unqL s.data.toList = some acc) := by
              show _ = _
              rw [unhide HU, unhide HQ, mid_nil s k (by omega)]
              simp [unqIn]
            go_wp2_with (go_at_call 23; refine (Tryd.Builder_String_any w.heap.size w.heap.size acc _ hI hBw).mono ?_; rintro e w3 ⟨rfl, hb3⟩)
            go_ret2
            exact ⟨⟨acc, true, rfl, fun _ => unhide HR, fun h => (by cases h), by omega⟩, hbw.trans hb3⟩
      · have b1 : ((s[s.size - 1].toNat : Int) != 34) = true := by simp [h1]
        have HN := hide (unqL_tail s (by omega) h1)
        clear h0 h1
        go_enter Tryd.func68, Tryd.ntmps68
        go_wp2
        go_ret2
        exact ⟨⟨[], false, rfl, fun h => (by cases h), fun _ => unhide HN, by simp⟩, Below.refl _ _⟩
    · have b0 : ((s[0].toNat : Int) != 34) = true := by simp [h0]
      have HN := hide (unqL_head s (by omega) h0)
      clear h0
      go_enter Tryd.func68, Tryd.ntmps68
      go_wp2
      go_ret2
      exact ⟨⟨[], false, rfl, fun h => (by cases h), fun _ => unhide HN, by simp⟩, Below.refl _ _⟩
end Go.Proofs.YtaapeleoiclplaaDoor

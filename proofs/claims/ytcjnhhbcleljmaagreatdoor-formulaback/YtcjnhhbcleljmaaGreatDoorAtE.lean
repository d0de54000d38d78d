/- What slices.Grow of nothing and slices.Concat answer, over rows of steps. -/
import Derived.Test.YtcjnhhbcleljmaaGreatDoorShelfG
import Derived.Test.YtcjnhhbcleljmaaGreatDoorBasD
import Derived.Test.YtcjnhhbcleljmaaGreatDoorBasE
import Derived.Laws.AppendOwnNone
import Derived.Deep.DeepAppendWide
namespace Go.Proofs.YtcjnhhbcleljmaaGreatDoor.Sb
open Go.RowKit
open V
open Ex (RowO LiesO flatO flatO_app flatO_len flatO_oneCell)

theorem infoOp : (Tryz.prog.info? 144).map (fun i => (i.zero, i.size, i.bytes)) = some (some (.agg #[.int .i64 0, .string ⟨#[]⟩, .int .i64 0, .int .i64 0, .string ⟨#[]⟩]), 5, 56) := by kernel_rfl
set_option maxHeartbeats 1000000 in
theorem growO_any (n : Nat) (w : World) (hn : n ≤ 20000) :
    Calls Tryz.prog 232 #[.slice none 0 0, .int .i64 n] w fun e w' => ∃ (a : Option Addr) (cap : Nat), e = .returned (.slice a 0 cap) ∧ w'.ownsRow w.heap.size 144 5 (.slice a 0 cap) 0 [] ∧ Below w.heap.size w w' := by
  obtain ⟨i0, hi, hz0, hz1, hz2⟩ := info_parts infoOp
  by_cases h0 : n = 0
  · subst h0
    refine (Any8.slices_Grow_room Tryz.growO none 0 0 0 w (Nat.le_refl _) (by omega) (by omega) (by omega)).mono ?_
    rintro e w' ⟨rfl, rfl⟩
    exact ⟨none, 0, rfl, World.ownsRow_nil _ _ _ _, Below.refl _ _⟩
  · have hg := Any8.slices_Grow_grow Tryz.growO i0 _ hi hz0 (by omega) none 0 0 n [] w (Nat.le_refl _) (by omega) (by rw [hz2]; omega) (by omega) (by simp) (fun _ => rfl) (by intro a h; cases h)
    refine hg.mono ?_
    rintro e w' ⟨rfl, rfl⟩
    refine ⟨_, _, rfl, ?_, (Below.refl _ _).drew.alloc (Nat.le_refl _) _⟩
    refine World.ownsRow_made w.drew _ _ (Nat.le_refl _) ?_ ?_
    · exact grownCap_le_maxLen w (0 + n) 0 144 (by unfold maxLen; omega)
    · have := grownCap_ge w n 0 (Tryz.growO_ren.t 25)
      simp [size_zeroCells, Value.cells]
      omega
/-- A list of steps, as it is handed on. -/
structure Lo where
  a : Option Addr
  len : Nat
  cap : Nat
  xs : List Oo
/-- A row of lists lies at block b. -/
def RowLo (w : World) (b : Nat) (ls : List Lo) : Prop := b < w.heap.size ∧ ∀ (i : Nat) (l : Lo), ls[i]? = some l → w.cell? ⟨b, i, none⟩ = some (.slice l.a l.len l.cap) ∧ LiesO w l.a l.len l.cap l.xs
theorem RowLo.on {w w' : World} {b : Nat} {ls : List Lo} (h : RowLo w b ls) (hb : Below w.heap.size w w') : RowLo w' b ls :=
  ⟨by have := h.1; have := hb.size; omega, fun i l hl => ⟨cell_on hb (h.2 i l hl).1, (h.2 i l hl).2.on hb⟩⟩
theorem RowLo.up {w : World} {b : Nat} {ls : List Lo} {i : Nat} (h : RowLo w b ls) (hi : i < ls.length) : w.cell? ⟨b, i, none⟩ = some (.slice ls[i].a ls[i].len ls[i].cap) ∧ LiesO w ls[i].a ls[i].len ls[i].cap ls[i].xs := h.2 i ls[i] (by simp [hi])
def allO (ls : List Lo) : List Oo := ls.flatMap Lo.xs
def sumO (ls : List Lo) : Nat := (ls.map Lo.len).sum
theorem allO_snoc (ls : List Lo) (l : Lo) : allO (ls ++ [l]) = allO ls ++ l.xs := by simp [allO]
theorem sumO_snoc (ls : List Lo) (l : Lo) : sumO (ls ++ [l]) = sumO ls + l.len := by simp [sumO]
theorem sumO_take (ls : List Lo) (k : Nat) : sumO (ls.take k) ≤ sumO ls := by
  induction ls generalizing k with
  | nil => simp
  | cons x r ih =>
    cases k with
    | zero => simp [sumO]
    | succ k => have := ih k; simp [sumO] at this ⊢; omega

set_option maxHeartbeats 4000000 in
set_option maxRecDepth 20000 in
theorem concat_any (b m : Nat) (ls : List Lo) (w : World) (hr : RowLo w b ls) (hm : m ≤ ls.length) (hm' : ls.length ≤ m) (hm3 : m ≤ 3) (hsum : sumO ls ≤ 20000) :
    Calls Tryz.prog 224 #[.slice (some ⟨b, 0, none⟩) m m] w fun e w' => ∃ (a : Option Addr) (n cap : Nat), e = .returned (.slice a n cap) ∧ w'.ownsRow w.heap.size 144 5 (.slice a n cap) n (flatO (allO ls)) ∧ Below w.heap.size w w' := by
  obtain ⟨i0, hi, hz0, hz1, hz2⟩ := info_parts infoOp
  have hs1 : ∀ k, sumO (ls.take k) ≤ 20000 := fun k => Nat.le_trans (sumO_take ls k) hsum
  have HS := hide hs1
  clear hs1
  go_enter Tryz.func224, Tryz.ntmps224
  go_wp2_with fail
  go_loopw [3, 5, 11] (fun c _ i wr => ∃ k s : Nat, k ≤ m ∧ i = .int .i64 k ∧ c = .int .i64 s ∧ s ≤ 20000 ∧ Hid (s = sumO (ls.take k)) ∧ wr = w) (fun _ _ i _ => m - (intOf i).toNat)
  case atStart => exact ⟨0, 0, Nat.zero_le _, rfl, rfl, by omega, hide (by simp [sumO]), rfl⟩
  case round =>
    obtain ⟨k, s, hk, rfl, rfl, hs, HK, hwr⟩ := hrel
    subst wr
    by_cases hlt : k < m
    · obtain ⟨c0, hin⟩ := hr.up (show k < ls.length by omega)
      have hk1 := unhide HS (k + 1)
      rw [List.take_succ_eq_append_getElem (show k < ls.length by omega), sumO_snoc, ← unhide HK] at hk1
      have HK' : Hid (s + ls[k].len = sumO (ls.take (k + 1))) := by
        refine hide ?_
        rw [List.take_succ_eq_append_getElem (show k < ls.length by omega), sumO_snoc, ← unhide HK]
      generalize ls[k] = x at c0 hin hk1 HK'
      have hpos : ¬ ((s : Int) + (x.len : Int) < 0) := by omega
      go_wp2_with fail
      go_roundw
      case rel => exact ⟨k + 1, s + x.len, by omega, by go_num, by go_num, hk1, HK', trivial⟩
      case measure => simp [intOf]; omega
    · go_wp2_with fail
      refine (growO_any s _ hs).mono ?_
      rintro e w1 ⟨ao, cp, rfl, hown, hb1⟩
      clear HK hs hlt hk
      go_wp2_with fail
      go_loopw [6, 8, 27] (fun v _ i wr => ∃ (k n cq : Nat) (aq : Option Addr), k ≤ m ∧ i = .int .i64 k ∧ v = .slice aq n cq ∧ n ≤ 20000 ∧ wr.ownsRow w.heap.size 144 5 (.slice aq n cq) n (flatO (allO (ls.take k))) ∧ Hid (n = sumO (ls.take k)) ∧ Below w.heap.size w wr) (fun _ _ i _ => m - (intOf i).toNat)
      case atStart => exact ⟨0, 0, cp, ao, Nat.zero_le _, rfl, rfl, by omega, by simpa [allO, flatO] using hown, hide (by simp [sumO]), hb1⟩
      case round =>
        obtain ⟨k, n, cq, aq, hk, rfl, rfl, hn, hM, HN, hbw⟩ := hrel
        by_cases hlt : k < m
        · have hin := ((hr.on hbw).up (show k < ls.length by omega)).2
          have c0 := ((hr.on hbw).up (show k < ls.length by omega)).1
          have hk1 := unhide HS (k + 1)
          rw [List.take_succ_eq_append_getElem (show k < ls.length by omega), sumO_snoc, ← unhide HN] at hk1
          have HK' : Hid (n + ls[k].len = sumO (ls.take (k + 1))) := by
            refine hide ?_
            rw [List.take_succ_eq_append_getElem (show k < ls.length by omega), sumO_snoc, ← unhide HN]
          have HA' : Hid (flatO (allO (ls.take (k + 1))) = flatO (allO (ls.take k)) ++ flatO ls[k].xs) := by
            refine hide ?_
            rw [List.take_succ_eq_append_getElem (show k < ls.length by omega), allO_snoc, flatO_app]
          generalize ls[k] = x at c0 hin hk1 HK' HA'
          generalize flatO (allO (ls.take k)) = ys at hM HA'
          obtain ⟨xa, xl, xc, xs⟩ := x
          obtain ⟨hxr, hxl, hxn, hxc⟩ := hin
          simp only at c0 hk1 HK' HA' hxr hxl hxn hxc
          have hsz := hbw.size
          cases xa with
          | none =>
            have h0 := hxn rfl
            subst h0
            have hl0 : xl = 0 := by omega
            subst hl0
            have hxe : xs = [] := List.eq_nil_of_length_eq_zero hxl.symm
            subst hxe
            clear hxr hxl hxn hxc
            have HA2 : Hid (flatO (allO (ls.take (k + 1))) = ys) := hide (by rw [unhide HA']; simp [flatO])
            go_wp2_with (at_builtin; refine wpList_append_own_none rfl _ _ 81 rfl w.heap.size 144 i0 5 Tryz.underlying81 hi _ n ys rfl hM rfl ?_)
            go_roundw
            case rel => exact ⟨k + 1, n, cq, aq, by omega, by go_num, rfl, by omega, by rw [unhide HA2]; exact hM, hide (by rw [← unhide HK']; rfl), hbw⟩
            case measure => simp [intOf]; omega
          | some ad =>
            have hcs := hide (rowO_cells hxr)
            have hx1 : xl ≤ xs.length := by omega
            have hx2 : xs.length ≤ xl := by omega
            clear hxl hxn
            go_wp2_with (at_builtin; refine wpList_append_own_wide _ rfl _ _ 81 rfl w.heap.size 144 i0 (.agg #[.int .i64 0, .string ⟨#[]⟩, .int .i64 0, .int .i64 0, .string ⟨#[]⟩]) 5 56 Tryz.underlying81 hi hz0 hz1 hz2 rfl (by decide) _ n ys rfl hM ad xl xc (flatO xs) rfl ?c0 ?c1 ?c2 ?c3 ?c4 ?c5 ?_)
            case c0 => rw [flatO_len]; omega
            case c1 => exact unhide hcs
            case c2 => exact flatO_oneCell xs
            case c3 => unfold maxLen; omega
            case c4 => omega
            case c5 => exact hsz
            intro v' w3 hown3 hgrow hnil3
            obtain ⟨aq3, cq3, rfl⟩ := own_slice hown3
            have hbw3 := hbw.grown hgrow hsz (fun m hm => (hM.lt m hm).1)
            clear hgrow hnil3 hcs c0
            go_wp2_with fail
            go_roundw
            case rel => exact ⟨k + 1, n + xl, cq3, aq3, by omega, by go_num, rfl, by omega, by rw [unhide HA']; exact hown3, HK', hbw3⟩
            case measure => simp [intOf]; omega
        · rw [List.take_of_length_le (by omega)] at hM
          go_wp2_with fail
          go_ret
          exact ⟨aq, n, cq, rfl, hM, hbw⟩
end Go.Proofs.YtcjnhhbcleljmaaGreatDoor.Sb

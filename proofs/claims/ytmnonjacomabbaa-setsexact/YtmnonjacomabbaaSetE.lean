/- What slices.Concat and slices.SortFunc do with lists of facts. -/
import Derived.Test.YtmnonjacomabbaaSetD
import Derived.Test.YtmnonjacomabbaaShelfS
import Derived.Sort.Row
namespace Go.Proofs.Ytmnonjacomabbaa
open Go.RowKit
open V

theorem flatF_oneCell (fs : List Fb) : ∀ u ∈ flatF fs, u.oneCell' = true := by
  induction fs with
  | nil => intro u h; simp [flatF] at h
  | cons x r ih =>
    intro u h
    simp only [flatF, List.mem_cons] at h
    rcases h with rfl | rfl | h
    · rfl
    · rfl
    · exact ih u h
theorem flatF_cells {W : World} {b o : Nat} (fs : List Fb) (hc : ∀ (i : Nat) (f : Fb), fs[i]? = some f → W.cell? ⟨b, o + i * 2, none⟩ = some (.string f.n) ∧ W.cell? ⟨b, o + i * 2 + 1, none⟩ = some (.slice f.a f.len f.cap)) : ∀ (j : Nat) (u : Value), (flatF fs)[j]? = some u → W.cell? ⟨b, o + j, none⟩ = some u := by
  induction fs generalizing o with
  | nil => intro j u h; simp [flatF] at h
  | cons x r ih =>
    intro j u h
    match j with
    | 0 =>
      simp [flatF] at h; subst h
      simpa using (hc 0 x rfl).1
    | 1 =>
      simp [flatF] at h; subst h
      simpa using (hc 0 x rfl).2
    | j + 2 =>
      have := ih (o := o + 2) (fun i v hv => by
        have := hc (i + 1) v (by simpa using hv)
        rw [show o + (i + 1) * 2 = o + 2 + i * 2 by omega] at this
        exact this) j u (by simpa [flatF] using h)
      rw [show o + (j + 2) = o + 2 + j by omega]
      exact this

set_option maxHeartbeats 4000000 in
set_option maxRecDepth 20000 in
theorem concat_any (b m : Nat) (ls : List Lb) (w : World) (hr : RowL w b ls) (hm : m ≤ ls.length) (hm' : ls.length ≤ m) (hm3 : m ≤ 3) (hsum : sumL ls ≤ 1000) (hnil : ∀ l ∈ ls, l.a = none → l.cap = 0) :
    Calls Try.prog 47 #[.slice (some ⟨b, 0, none⟩) m m] w fun e w' => ∃ (a : Option Addr) (n cap : Nat), e = .returned (.slice a n cap) ∧ w'.ownsRow w.heap.size 25 2 (.slice a n cap) n (flatF (allL ls)) ∧ Below w.heap.size w w' := by
  obtain ⟨i0, hi, hz0, hz1, hz2⟩ := info_parts infoF
  have hs1 : ∀ k, sumL (ls.take k) ≤ 1000 := fun k => Nat.le_trans (sumL_take ls k) hsum
  have HS := hide hs1
  have HNIL := hide hnil
  clear hs1 hnil
  go_enter Try.func47, Try.ntmps47
  go_wp2_with fail
  go_loopw [3, 5, 11] (fun c _ i wr => ∃ k s : Nat, k ≤ m ∧ i = .int .i64 k ∧ c = .int .i64 s ∧ s ≤ 1000 ∧ Hid (s = sumL (ls.take k)) ∧ wr = w) (fun _ _ i _ => m - (intOf i).toNat)
  case atStart => exact ⟨0, 0, Nat.zero_le _, rfl, rfl, by omega, hide (by simp [sumL]), rfl⟩
  case round =>
    obtain ⟨k, s, hk, rfl, rfl, hs, HK, hwr⟩ := hrel
    subst wr
    by_cases hlt : k < m
    · obtain ⟨c0, hin⟩ := hr.up (show k < ls.length by omega)
      have hk1 := unhide HS (k + 1)
      rw [List.take_succ_eq_append_getElem (show k < ls.length by omega), sumL_snoc, ← unhide HK] at hk1
      have HK' : Hid (s + ls[k].len = sumL (ls.take (k + 1))) := by
        refine hide ?_
        rw [List.take_succ_eq_append_getElem (show k < ls.length by omega), sumL_snoc, ← unhide HK]
      generalize ls[k] = x at c0 hin hk1 HK'
      have hpos : ¬ ((s : Int) + (x.len : Int) < 0) := by omega
      go_wp2_with fail
      go_roundw
      case rel => exact ⟨k + 1, s + x.len, by omega, by go_num, by go_num, hk1, HK', trivial⟩
      case measure => simp [intOf]; omega
    · go_wp2_with fail
      refine (growF_any s _ hs).mono ?_
      rintro e w1 ⟨ao, cp, rfl, hown, hb1⟩
      clear HK hs hlt hk
      go_wp2_with fail
      go_loopw [6, 8, 27] (fun v _ i wr => ∃ (k n cq : Nat) (aq : Option Addr), k ≤ m ∧ i = .int .i64 k ∧ v = .slice aq n cq ∧ n ≤ 1000 ∧ wr.ownsRow w.heap.size 25 2 (.slice aq n cq) n (flatF (allL (ls.take k))) ∧ Hid (n = sumL (ls.take k)) ∧ Below w.heap.size w wr) (fun _ _ i _ => m - (intOf i).toNat)
      case atStart => exact ⟨0, 0, cp, ao, Nat.zero_le _, rfl, rfl, by omega, by simpa [allL, flatF] using hown, hide (by simp [sumL]), hb1⟩
      case round =>
        obtain ⟨k, n, cq, aq, hk, rfl, rfl, hn, hM, HN, hbw⟩ := hrel
        by_cases hlt : k < m
        · have hin := ((hr.on hbw).up (show k < ls.length by omega)).2
          have c0 := ((hr.on hbw).up (show k < ls.length by omega)).1
          have hxn := unhide HNIL ls[k] (List.getElem_mem (by omega))
          have hk1 := unhide HS (k + 1)
          rw [List.take_succ_eq_append_getElem (show k < ls.length by omega), sumL_snoc, ← unhide HN] at hk1
          have HK' : Hid (n + ls[k].len = sumL (ls.take (k + 1))) := by
            refine hide ?_
            rw [List.take_succ_eq_append_getElem (show k < ls.length by omega), sumL_snoc, ← unhide HN]
          have HA' : Hid (flatF (allL (ls.take (k + 1))) = flatF (allL (ls.take k)) ++ flatF ls[k].fs) := by
            refine hide ?_
            rw [List.take_succ_eq_append_getElem (show k < ls.length by omega), allL_snoc, flatF_app]
          generalize ls[k] = x at c0 hin hk1 HK' HA' hxn
          generalize flatF (allL (ls.take k)) = ys at hM HA'
          obtain ⟨xa, xl, xc, xs⟩ := x
          obtain ⟨hxr, hxl, hxL⟩ := hin
          simp only at c0 hk1 HK' HA' hxr hxl hxL hxn
          have hsz := hbw.size
          cases xa with
          | none =>
            have hxe : xs = [] := by
              rcases hxr.2 with h | ⟨b, o, h, _⟩
              · exact h
              · cases h
            have h0 := hxn rfl
            subst hxe h0
            simp at hxl
            subst hxl
            have HA2 : Hid (flatF (allL (ls.take (k + 1))) = ys) := hide (by rw [unhide HA']; simp [flatF])
            go_wp2_with (at_builtin; refine wpList_append_own_none rfl _ _ 22 rfl w.heap.size 25 i0 2 Try.underlying22 hi _ n ys rfl hM rfl ?_)
            go_roundw
            case rel => exact ⟨k + 1, n, cq, aq, by omega, by go_num, rfl, by omega, by rw [unhide HA2]; exact hM, hide (by rw [← unhide HK']; rfl), hbw⟩
            case measure => simp [intOf]; omega
          | some ad =>
            have hcs : Hid (∀ (j : Nat) (u : Value), (flatF xs)[j]? = some u → wr.cell? (ad.add j) = some u) := by
              refine hide ?_
              rcases hxr.2 with h | ⟨b, o, h, hlt, hc⟩
              · subst h; intro j u hu; simp [flatF] at hu
              · simp only [Option.some.injEq] at h
                subst h
                intro j u hu
                rw [WideShapes.add_plain]
                exact flatF_cells xs hc j u hu
            have hx1 : xl ≤ xs.length := by omega
            have hx2 : xs.length ≤ xl := by omega
            clear hxl
            go_wp2_with (at_builtin; refine wpList_append_own_wide _ rfl _ _ 22 rfl w.heap.size 25 i0 (.agg #[.string ⟨#[]⟩, .slice none 0 0]) 2 40 Try.underlying22 hi hz0 hz1 hz2 rfl (by decide) _ n ys rfl hM ad xl xc (flatF xs) rfl ?c0 ?c1 ?c2 ?c3 ?c4 ?c5 ?_)
            case c0 => rw [flatF_len]; omega
            case c1 => exact unhide hcs
            case c2 => exact flatF_oneCell xs
            case c3 => unfold maxLen; omega
            case c4 => omega
            case c5 => exact hsz
            intro v' w3 hown3 hgrow hnil3
            obtain ⟨aq3, cq3, rfl⟩ := own_slice hown3
            have hbw3 := hbw.grown hgrow hsz (fun m hm => (hM.lt m hm).1)
            clear hgrow hnil3 hcs c0 hxn
            go_wp2_with fail
            go_roundw
            case rel => exact ⟨k + 1, n + xl, cq3, aq3, by omega, by go_num, rfl, by omega, by rw [unhide HA']; exact hown3, HK', hbw3⟩
            case measure => simp [intOf]; omega
        · rw [List.take_of_length_le (by omega)] at hM
          go_wp2_with fail
          go_ret
          exact ⟨aq, n, cq, rfl, hM, hbw⟩
end Go.Proofs.Ytmnonjacomabbaa

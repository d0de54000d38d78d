/- What is new memory: rows that a call owns; what slices.Grow of nothing and slices.Concat answer. -/
import Derived.Test.YtmoalmpcobljkaaSubF
import Derived.Test.YtmoalmpcobljkaaShelfBG
namespace Go.Proofs.Ytmoalmpcobljkaa.Sb
open Go.RowKit
open V

theorem infoB : (Try.prog.info? 61).map (fun i => (i.zero, i.size, i.bytes)) = some (some (.agg #[.string ⟨#[]⟩, .int .i64 0, .int .i64 0, .string ⟨#[]⟩]), 4, 48) := by kernel_rfl
theorem info_parts {t : TypeId} {z : Value} {s b : Nat} (h : (Try.prog.info? t).map (fun i => (i.zero, i.size, i.bytes)) = some (some z, s, b)) : ∃ i, Try.prog.info? t = some i ∧ i.zero = some z ∧ i.size = s ∧ i.bytes = b := by
  cases hi : Try.prog.info? t with
  | none => rw [hi] at h; cases h
  | some i =>
    rw [hi] at h
    simp only [Option.map_some, Option.some.injEq, Prod.mk.injEq] at h
    exact ⟨i, rfl, h.1, h.2.1, h.2.2⟩

theorem own_on {w w' : World} {B : Nat} {e : TypeId} {s : Nat} {v : Value} {n : Nat} {xs : List Value} (h : w.ownsRow B e s v n xs) (hb : Below w.heap.size w w') : w'.ownsRow B e s v n xs :=
  h.kept (row := none) ⟨hb.os, hb.tape, hb.output, hb.size, fun k hk _ => hb.block k hk⟩ (by cases hv : v.ownBlock <;> simp)
theorem own_mono {w : World} {B B' : Nat} {e : TypeId} {s : Nat} {v : Value} {n : Nat} {xs : List Value} (h : w.ownsRow B e s v n xs) (hB : B' ≤ B) : w.ownsRow B' e s v n xs := by
  refine ⟨h.1, ?_⟩
  rcases h.2 with h | ⟨g, cap, cur, hv, hb, r⟩
  · exact Or.inl h
  · exact Or.inr ⟨g, cap, cur, hv, by omega, r⟩
theorem own_slice {w : World} {B : Nat} {e : TypeId} {s : Nat} {v : Value} {n : Nat} {xs : List Value} (h : w.ownsRow B e s v n xs) : ∃ a cap, v = .slice a n cap := by
  rcases h.2 with ⟨hv, h0⟩ | ⟨g, cap, cur, hv, _⟩
  · exact ⟨none, 0, by rw [hv, h0]⟩
  · exact ⟨_, _, hv⟩
theorem own_drew {w : World} {B : Nat} {e : TypeId} {s : Nat} {v : Value} {n : Nat} {xs : List Value} (h : w.ownsRow B e s v n xs) : w.drew.ownsRow B e s v n xs := h
theorem own_nil {w : World} {B : Nat} {e : TypeId} {s : Nat} {a : Option Addr} {n cap : Nat} {xs : List Value} (h : w.ownsRow B e s (.slice a n cap) n xs) : (a = none → cap = 0) ∧ n ≤ cap := by
  rcases h.2 with ⟨hv, h0⟩ | ⟨g, cap', cur, hv, _, _, hc, _⟩
  · simp at hv; exact ⟨fun _ => hv.2.2, by omega⟩
  · simp only [Value.slice.injEq] at hv
    obtain ⟨rfl, _, rfl⟩ := hv
    exact ⟨by simp, hc⟩
theorem rowB_own {w : World} {B n cp : Nat} {ao : Option Addr} {xs : List Bb} (h : w.ownsRow B 61 4 (.slice ao n cp) n (flatB xs)) (hn : n = xs.length) : RowB w ao xs := by
  rcases h.2 with ⟨_, h0⟩ | ⟨g, cap, cur, hv, _, hg, _, _, _, ht⟩
  · left; exact List.eq_nil_of_length_eq_zero (by omega)
  · simp only [Value.slice.injEq] at hv
    obtain ⟨rfl, _, _⟩ := hv
    refine Or.inr ⟨g, 0, rfl, (Array.getElem?_eq_some_iff.1 hg).1, fun i v hv => ?_⟩
    have hi : i < n := by rw [hn]; exact (List.getElem?_eq_some_iff.1 hv).1
    obtain ⟨h0, h1, h2, h3⟩ := flatB_get xs i v hv
    rw [← ht] at h0 h1 h2 h3
    rw [List.getElem?_take_of_lt (by omega), Array.getElem?_toList] at h0 h1 h2 h3
    rw [Lib.cell_of_heap hg, Lib.cell_of_heap hg, Lib.cell_of_heap hg, Lib.cell_of_heap hg]
    simpa using ⟨h0, h1, h2, h3⟩

/-- A list lies at a slice. -/
structure Lies (w : World) (a : Option Addr) (n cap : Nat) (xs : List Bb) : Prop where
  row : RowB w a xs
  len : n = xs.length
  nil : a = none → cap = 0
  cap : n ≤ cap
theorem Lies.on {w w' : World} {a : Option Addr} {n cap : Nat} {xs : List Bb} (h : Lies w a n cap xs) (hb : Below w.heap.size w w') : Lies w' a n cap xs := ⟨h.row.on hb, h.len, h.nil, h.cap⟩
theorem Lies.le {w : World} {a : Option Addr} {n cap : Nat} {xs : List Bb} (h : Lies w a n cap xs) : n ≤ xs.length := by rw [h.len]; exact Nat.le_refl _
theorem Lies.ge {w : World} {a : Option Addr} {n cap : Nat} {xs : List Bb} (h : Lies w a n cap xs) : xs.length ≤ n := by rw [h.len]; exact Nat.le_refl _
theorem lies_own {w : World} {B n cp : Nat} {ao : Option Addr} {xs : List Bb} (h : w.ownsRow B 61 4 (.slice ao n cp) n (flatB xs)) : Lies w ao n cp xs := by
  have hn : n = xs.length := by have := h.1; rw [flatB_len] at this; omega
  exact ⟨rowB_own h hn, hn, (own_nil h).1, (own_nil h).2⟩
theorem lies_none (w : World) : Lies w none 0 0 [] := ⟨Or.inl rfl, rfl, fun _ => rfl, Nat.le_refl _⟩

theorem flatB_cells {W : World} {b o : Nat} (xs : List Bb) (hc : ∀ (i : Nat) (x : Bb), xs[i]? = some x → W.cell? ⟨b, o + i * 4, none⟩ = some (.string x.1) ∧ W.cell? ⟨b, o + i * 4 + 1, none⟩ = some (.int .i64 x.2.1) ∧ W.cell? ⟨b, o + i * 4 + 2, none⟩ = some (.int .i64 x.2.2.1) ∧ W.cell? ⟨b, o + i * 4 + 3, none⟩ = some (.string x.2.2.2)) : ∀ (j : Nat) (u : Value), (flatB xs)[j]? = some u → W.cell? ⟨b, o + j, none⟩ = some u := by
  induction xs generalizing o with
  | nil => intro j u h; simp [flatB] at h
  | cons x r ih =>
    intro j u h
    obtain ⟨h0, h1, h2, h3⟩ := hc 0 x rfl
    match j with
    | 0 => simp [flatB] at h; subst h; simpa using h0
    | 1 => simp [flatB] at h; subst h; simpa using h1
    | 2 => simp [flatB] at h; subst h; simpa using h2
    | 3 => simp [flatB] at h; subst h; simpa using h3
    | j + 4 =>
      have := ih (o := o + 4) (fun i v hv => by
        have := hc (i + 1) v (by simpa using hv)
        rw [show o + (i + 1) * 4 = o + 4 + i * 4 by omega] at this
        exact this) j u (by simpa [flatB] using h)
      rw [show o + (j + 4) = o + 4 + j by omega]
      exact this
theorem row_cells {W : World} {ad : Addr} {xs : List Bb} (h : RowB W (some ad) xs) : ∀ (j : Nat) (u : Value), (flatB xs)[j]? = some u → W.cell? (ad.add j) = some u := by
  rcases h with h | ⟨b, o, h, hlt, hc⟩
  · subst h; intro j u hu; simp [flatB] at hu
  · simp only [Option.some.injEq] at h
    subst h
    intro j u hu
    rw [WideShapes.add_plain]
    exact flatB_cells xs hc j u hu

set_option maxHeartbeats 1000000 in
theorem growB_any (n : Nat) (w : World) (hn : n ≤ 1000) :
    Calls Try.prog 48 #[.slice none 0 0, .int .i64 n] w fun e w' => ∃ (a : Option Addr) (cap : Nat), e = .returned (.slice a 0 cap) ∧ w'.ownsRow w.heap.size 61 4 (.slice a 0 cap) 0 [] ∧ Below w.heap.size w w' := by
  obtain ⟨i0, hi, hz0, hz1, hz2⟩ := info_parts infoB
  by_cases h0 : n = 0
  · subst h0
    refine (Any8.slices_Grow_room Try.growB none 0 0 0 w (Nat.le_refl _) (by omega) (by omega) (by omega)).mono ?_
    rintro e w' ⟨rfl, rfl⟩
    exact ⟨none, 0, rfl, World.ownsRow_nil _ _ _ _, Below.refl _ _⟩
  · have hg := Any8.slices_Grow_grow Try.growB i0 _ hi hz0 (by omega) none 0 0 n [] w (Nat.le_refl _) (by omega) (by rw [hz2]; omega) (by omega) (by simp) (fun _ => rfl) (by intro a h; cases h)
    refine hg.mono ?_
    rintro e w' ⟨rfl, rfl⟩
    refine ⟨_, _, rfl, ?_, (Below.refl _ _).drew.alloc (Nat.le_refl _) _⟩
    refine World.ownsRow_made w.drew _ _ (Nat.le_refl _) ?_ ?_
    · exact grownCap_le_maxLen w (0 + n) 0 61 (by unfold maxLen; omega)
    · have := grownCap_ge w n 0 (Try.growB_ren.t 25)
      simp [size_zeroCells, Value.cells]
      omega

/-- A list, as it is handed on. -/
structure Lb where
  a : Option Addr
  len : Nat
  cap : Nat
  xs : List Bb
/-- A row of lists lies at block b. -/
def RowL (w : World) (b : Nat) (ls : List Lb) : Prop := b < w.heap.size ∧ ∀ (i : Nat) (l : Lb), ls[i]? = some l → w.cell? ⟨b, i, none⟩ = some (.slice l.a l.len l.cap) ∧ Lies w l.a l.len l.cap l.xs
theorem RowL.on {w w' : World} {b : Nat} {ls : List Lb} (h : RowL w b ls) (hb : Below w.heap.size w w') : RowL w' b ls :=
  ⟨by have := h.1; have := hb.size; omega, fun i l hl => ⟨cell_on hb (h.2 i l hl).1, (h.2 i l hl).2.on hb⟩⟩
theorem RowL.up {w : World} {b : Nat} {ls : List Lb} {i : Nat} (h : RowL w b ls) (hi : i < ls.length) : w.cell? ⟨b, i, none⟩ = some (.slice ls[i].a ls[i].len ls[i].cap) ∧ Lies w ls[i].a ls[i].len ls[i].cap ls[i].xs := h.2 i ls[i] (by simp [hi])
def allL (ls : List Lb) : List Bb := ls.flatMap Lb.xs
def sumL (ls : List Lb) : Nat := (ls.map Lb.len).sum
theorem allL_snoc (ls : List Lb) (l : Lb) : allL (ls ++ [l]) = allL ls ++ l.xs := by simp [allL]
theorem sumL_snoc (ls : List Lb) (l : Lb) : sumL (ls ++ [l]) = sumL ls + l.len := by simp [sumL]
theorem sumL_take (ls : List Lb) (k : Nat) : sumL (ls.take k) ≤ sumL ls := by
  induction ls generalizing k with
  | nil => simp
  | cons x r ih =>
    cases k with
    | zero => simp [sumL]
    | succ k => have := ih k; simp [sumL] at this ⊢; omega

set_option maxHeartbeats 4000000 in
set_option maxRecDepth 20000 in
theorem concat_any (b m : Nat) (ls : List Lb) (w : World) (hr : RowL w b ls) (hm : m ≤ ls.length) (hm' : ls.length ≤ m) (hm3 : m ≤ 3) (hsum : sumL ls ≤ 1000) :
    Calls Try.prog 34 #[.slice (some ⟨b, 0, none⟩) m m] w fun e w' => ∃ (a : Option Addr) (n cap : Nat), e = .returned (.slice a n cap) ∧ w'.ownsRow w.heap.size 61 4 (.slice a n cap) n (flatB (allL ls)) ∧ Below w.heap.size w w' := by
  obtain ⟨i0, hi, hz0, hz1, hz2⟩ := info_parts infoB
  have hs1 : ∀ k, sumL (ls.take k) ≤ 1000 := fun k => Nat.le_trans (sumL_take ls k) hsum
  have HS := hide hs1
  clear hs1
  go_enter Try.func34, Try.ntmps34
  go_wp2_with fail
  go_loopw [3, 5, 11] (fun c _ i wr => ∃ k s : Nat, k ≤ m ∧ i = .int .i64 k ∧ c = .int .i64 s ∧ s ≤ 1000 ∧ Hid (s = sumL (ls.take k)) ∧ wr = w) (fun _ _ i _ => m - (intOf i).toNat)
  case atStart => exact ⟨0, 0, Nat.zero_le _, rfl, rfl, by omega, hide (by simp [sumL]), rfl⟩
  case round =>
    obtain ⟨k, s, hk, rfl, rfl, hs, HK, hwr⟩ := hrel
    subst wr
    by_cases hlt : k < m
    · obtain ⟨c0, hin⟩ := hr.up (show k < ls.length by omega)
      have hk1 := unhide HS (k + 1)
      rw [List.take_succ_eq_append_getElem (show k < ls.length by omega), sumL_snoc, ← unhide HK] at hk1
      have HK' : Hid (s + ls[k].len = sumL (ls.take (k + 1))) := by
        refine hide ?_
        rw [List.take_succ_eq_append_getElem (show k < ls.length by omega), sumL_snoc, ← unhide HK]
      generalize ls[k] = x at c0 hin hk1 HK'
      have hpos : ¬ ((s : Int) + (x.len : Int) < 0) := by omega
      go_wp2_with fail
      go_roundw
      case rel => exact ⟨k + 1, s + x.len, by omega, by go_num, by go_num, hk1, HK', trivial⟩
      case measure => simp [intOf]; omega
    · go_wp2_with fail
      refine (growB_any s _ hs).mono ?_
      rintro e w1 ⟨ao, cp, rfl, hown, hb1⟩
      clear HK hs hlt hk
      go_wp2_with fail
      go_loopw [6, 8, 27] (fun v _ i wr => ∃ (k n cq : Nat) (aq : Option Addr), k ≤ m ∧ i = .int .i64 k ∧ v = .slice aq n cq ∧ n ≤ 1000 ∧ wr.ownsRow w.heap.size 61 4 (.slice aq n cq) n (flatB (allL (ls.take k))) ∧ Hid (n = sumL (ls.take k)) ∧ Below w.heap.size w wr) (fun _ _ i _ => m - (intOf i).toNat)
      case atStart => exact ⟨0, 0, cp, ao, Nat.zero_le _, rfl, rfl, by omega, by simpa [allL, flatB] using hown, hide (by simp [sumL]), hb1⟩
      case round =>
        obtain ⟨k, n, cq, aq, hk, rfl, rfl, hn, hM, HN, hbw⟩ := hrel
        by_cases hlt : k < m
        · have hin := ((hr.on hbw).up (show k < ls.length by omega)).2
          have c0 := ((hr.on hbw).up (show k < ls.length by omega)).1
          have hk1 := unhide HS (k + 1)
          rw [List.take_succ_eq_append_getElem (show k < ls.length by omega), sumL_snoc, ← unhide HN] at hk1
          have HK' : Hid (n + ls[k].len = sumL (ls.take (k + 1))) := by
            refine hide ?_
            rw [List.take_succ_eq_append_getElem (show k < ls.length by omega), sumL_snoc, ← unhide HN]
          have HA' : Hid (flatB (allL (ls.take (k + 1))) = flatB (allL (ls.take k)) ++ flatB ls[k].xs) := by
            refine hide ?_
            rw [List.take_succ_eq_append_getElem (show k < ls.length by omega), allL_snoc, flatB_app]
          generalize ls[k] = x at c0 hin hk1 HK' HA'
          generalize flatB (allL (ls.take k)) = ys at hM HA'
          obtain ⟨xa, xl, xc, xs⟩ := x
          obtain ⟨hxr, hxl, hxn, hxc⟩ := hin
          simp only at c0 hk1 HK' HA' hxr hxl hxn hxc
          have hsz := hbw.size
          cases xa with
          | none =>
            have h0 := hxn rfl
            subst h0
            have hl0 : xl = 0 := by omega
            subst hl0
            have hxe : xs = [] := List.eq_nil_of_length_eq_zero hxl.symm
            subst hxe
            clear hxr hxl hxn hxc
            have HA2 : Hid (flatB (allL (ls.take (k + 1))) = ys) := hide (by rw [unhide HA']; simp [flatB])
            go_wp2_with (at_builtin; refine wpList_append_own_none rfl _ _ 30 rfl w.heap.size 61 i0 4 Try.underlying30 hi _ n ys rfl hM rfl ?_)
            go_roundw
            case rel => exact ⟨k + 1, n, cq, aq, by omega, by go_num, rfl, by omega, by rw [unhide HA2]; exact hM, hide (by rw [← unhide HK']; rfl), hbw⟩
            case measure => simp [intOf]; omega
          | some ad =>
            have hcs := hide (row_cells hxr)
            have hx1 : xl ≤ xs.length := by omega
            have hx2 : xs.length ≤ xl := by omega
            clear hxl hxn
            go_wp2_with (at_builtin; refine wpList_append_own_wide _ rfl _ _ 30 rfl w.heap.size 61 i0 (.agg #[.string ⟨#[]⟩, .int .i64 0, .int .i64 0, .string ⟨#[]⟩]) 4 48 Try.underlying30 hi hz0 hz1 hz2 rfl (by decide) _ n ys rfl hM ad xl xc (flatB xs) rfl ?c0 ?c1 ?c2 ?c3 ?c4 ?c5 ?_)
            case c0 => rw [flatB_len]; omega
            case c1 => exact unhide hcs
            case c2 => exact flatB_oneCell xs
            case c3 => unfold maxLen; omega
            case c4 => omega
            case c5 => exact hsz
            intro v' w3 hown3 hgrow hnil3
            obtain ⟨aq3, cq3, rfl⟩ := own_slice hown3
            have hbw3 := hbw.grown hgrow hsz (fun m hm => (hM.lt m hm).1)
            clear hgrow hnil3 hcs c0
            go_wp2_with fail
            go_roundw
            case rel => exact ⟨k + 1, n + xl, cq3, aq3, by omega, by go_num, rfl, by omega, by rw [unhide HA']; exact hown3, HK', hbw3⟩
            case measure => simp [intOf]; omega
        · rw [List.take_of_length_le (by omega)] at hM
          go_wp2_with fail
          go_ret
          exact ⟨aq, n, cq, rfl, hM, hbw⟩
end Go.Proofs.Ytmoalmpcobljkaa.Sb

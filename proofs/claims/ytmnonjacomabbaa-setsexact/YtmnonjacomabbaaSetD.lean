/- What sets.join answers: the facts of some lists, one list behind the other, in new memory. -/
import Derived.Test.YtmnonjacomabbaaSetC
namespace Go.Proofs.Ytmnonjacomabbaa
open Go.RowKit
open V

/-- A list, as it lies in memory. -/
structure Lb where
  a : Option Addr
  len : Nat
  cap : Nat
  fs : List Fb
/-- The list's facts lie there, and are small enough. -/
structure Lb.In (l : Lb) (w : World) : Prop where
  row : RowF w l.a l.fs
  len : l.len = l.fs.length
  light : ∀ f ∈ l.fs, f.Light
theorem Lb.In.on {l : Lb} {w w' : World} (h : l.In w) (hb : Below w.heap.size w w') : l.In w' := ⟨h.row.on hb, h.len, h.light⟩
/-- A row of lists lies at block b. -/
def RowL (w : World) (b : Nat) (ls : List Lb) : Prop := b < w.heap.size ∧ ∀ (i : Nat) (l : Lb), ls[i]? = some l → w.cell? ⟨b, i, none⟩ = some (.slice l.a l.len l.cap) ∧ l.In w
theorem RowL.on {w w' : World} {b : Nat} {ls : List Lb} (h : RowL w b ls) (hb : Below w.heap.size w w') : RowL w' b ls :=
  ⟨by have := h.1; have := hb.size; omega, fun i l hl => ⟨(hb.cell (p := ⟨b, i, none⟩) h.1).trans (h.2 i l hl).1, (h.2 i l hl).2.on hb⟩⟩
theorem RowL.up {w : World} {b : Nat} {ls : List Lb} {i : Nat} (h : RowL w b ls) (hi : i < ls.length) : w.cell? ⟨b, i, none⟩ = some (.slice ls[i].a ls[i].len ls[i].cap) ∧ ls[i].In w := h.2 i ls[i] (by simp [hi])
def allL (ls : List Lb) : List Fb := ls.flatMap Lb.fs
def sumL (ls : List Lb) : Nat := (ls.map Lb.len).sum
theorem allL_snoc (ls : List Lb) (l : Lb) : allL (ls ++ [l]) = allL ls ++ l.fs := by simp [allL]
theorem sumL_snoc (ls : List Lb) (l : Lb) : sumL (ls ++ [l]) = sumL ls + l.len := by simp [sumL]
theorem sumL_take (ls : List Lb) (k : Nat) : sumL (ls.take k) ≤ sumL ls := by
  induction ls generalizing k with
  | nil => simp
  | cons x r ih =>
    cases k with
    | zero => simp [sumL]
    | succ k => have := ih k; simp [sumL] at this ⊢; omega

/-- A list of facts that lies in new memory, from block B on. -/
structure MadeL (B : Nat) (w : World) (v : Value) (n : Nat) (gs : List Fb) : Prop where
  own : w.ownsRow B 25 2 v n (flatF gs)
  new : ∀ g ∈ gs, g.New B w
  len : n = gs.length
theorem MadeL.on {B : Nat} {w w' : World} {v : Value} {n : Nat} {gs : List Fb} (h : MadeL B w v n gs) (hb : Below w.heap.size w w') : MadeL B w' v n gs := ⟨own_on h.own hb, fun g hg => (h.new g hg).on hb, h.len⟩
theorem MadeL.mono {B B' : Nat} {w : World} {v : Value} {n : Nat} {gs : List Fb} (h : MadeL B w v n gs) (hB : B' ≤ B) : MadeL B' w v n gs := ⟨own_mono h.own hB, fun g hg => (h.new g hg).mono hB, h.len⟩

theorem rowF_own {w : World} {B n cp : Nat} {ao : Option Addr} {fs : List Fb} (h : w.ownsRow B 25 2 (.slice ao n cp) n (flatF fs)) (hn : n = fs.length) (hin : ∀ f ∈ fs, f.In w) : RowF w ao fs := by
  refine ⟨hin, ?_⟩
  rcases h.2 with ⟨_, h0⟩ | ⟨g, cap, cur, hv, _, hg, _, _, _, ht⟩
  · left; exact List.eq_nil_of_length_eq_zero (by omega)
  · simp only [Value.slice.injEq] at hv
    obtain ⟨rfl, _, _⟩ := hv
    refine Or.inr ⟨g, 0, rfl, (Array.getElem?_eq_some_iff.1 hg).1, fun i v hv => ?_⟩
    have hi : i < n := by rw [hn]; exact (List.getElem?_eq_some_iff.1 hv).1
    obtain ⟨h0, h1⟩ := flatF_get fs i v hv
    rw [← ht] at h0 h1
    rw [List.getElem?_take_of_lt (by omega), Array.getElem?_toList] at h0 h1
    rw [Lib.cell_of_heap hg, Lib.cell_of_heap hg]
    simpa using ⟨h0, h1⟩
theorem MadeL.row {B : Nat} {w : World} {a : Option Addr} {n cap : Nat} {gs : List Fb} (h : MadeL B w (.slice a n cap) n gs) : RowF w a gs :=
  rowF_own h.own h.len (fun g hg => (h.new g hg).In)

/-- One more fact, behind the others. -/
theorem MadeL.snoc {B : Nat} {w w2 : World} {v v' : Value} {n : Nat} {gs : List Fb} {g : Fb} (h : MadeL B w v n gs) (hg : g.New B w) (hown : w2.ownsRow B 25 2 v' (n + 1) (flatF gs ++ [.string g.n, .slice g.a g.len g.cap])) (hgrow : w.grownBy w2 v.ownBlock) : MadeL B w2 v' (n + 1) (gs ++ [g]) := by
  refine ⟨by rw [flatF_app]; exact hown, fun f hf => ?_, by simp [h.len]⟩
  have hf' : f.New B w := by
    rcases List.mem_append.1 hf with hf | hf
    · exact h.new f hf
    · rw [List.mem_singleton.1 hf]; exact hg
  exact ⟨hf'.own.kept hgrow (own_ne h.own hf'.own (by decide)), hf'.len⟩

set_option maxHeartbeats 4000000 in
set_option maxRecDepth 20000 in
theorem join_any (b m : Nat) (ls : List Lb) (w : World) (hr : RowL w b ls) (hm : m ≤ ls.length) (hm' : ls.length ≤ m) (hm3 : m ≤ 3) (hsum : sumL ls ≤ 1000) :
    Calls Try.prog 33 #[.slice (some ⟨b, 0, none⟩) m m] w fun e w' => ∃ (a : Option Addr) (n cap : Nat) (gs : List Fb), e = .returned (.slice a n cap) ∧ MadeL w.heap.size w' (.slice a n cap) n gs ∧ Hid (gs.map Fb.c = (allL ls).map Fb.c) ∧ Below w.heap.size w w' := by
  obtain ⟨i0, hi, hz0, hz1, hz2⟩ := info_parts infoF
  have hs1 : ∀ k, sumL (ls.take k) ≤ 1000 := fun k => Nat.le_trans (sumL_take ls k) hsum
  have HS := hide hs1
  clear hs1
  go_enter Try.func33, Try.ntmps33
  go_wp2_with fail
  go_loopw [3, 5, 13] (fun c _ i wr => ∃ k s : Nat, k ≤ m ∧ i = .int .i64 k ∧ c = .int .i64 s ∧ s ≤ 1000 ∧ Hid (s = sumL (ls.take k)) ∧ wr = w) (fun _ _ i _ => m - (intOf i).toNat)
  case atStart => exact ⟨0, 0, Nat.zero_le _, rfl, rfl, by omega, hide (by simp [sumL]), rfl⟩
  case round =>
    obtain ⟨k, s, hk, rfl, rfl, hs, HK, hwr⟩ := hrel
    subst wr
    by_cases hlt : k < m
    · obtain ⟨c0, hin⟩ := hr.up (show k < ls.length by omega)
      have hk1 := unhide HS (k + 1)
      rw [List.take_succ_eq_append_getElem (show k < ls.length by omega), sumL_snoc, ← unhide HK] at hk1
      have HK' : Hid (s + ls[k].len = sumL (ls.take (k + 1))) := by
        refine hide ?_
        rw [List.take_succ_eq_append_getElem (show k < ls.length by omega), sumL_snoc, ← unhide HK]
      generalize ls[k] = x at c0 hin hk1 HK'
      go_wp2_with fail
      go_roundw
      case rel => exact ⟨k + 1, s + x.len, by omega, by go_num, by go_num, hk1, HK', trivial⟩
      case measure => simp [intOf]; omega
    · go_wp2_with fail
      refine (growF_any s _ hs).mono ?_
      rintro e w1 ⟨ao, cp, rfl, hown, hb1⟩
      clear HK hs hlt hk
      go_wp2_with fail
      go_loopw [6, 8, 10, 26] (fun v _ _ i wr => ∃ (k n cq : Nat) (aq : Option Addr) (gs : List Fb), k ≤ m ∧ i = .int .i64 k ∧ v = .slice aq n cq ∧ n ≤ 1000 ∧ MadeL w.heap.size wr (.slice aq n cq) n gs ∧ Hid (n = sumL (ls.take k)) ∧ Hid (gs.map Fb.c = (allL (ls.take k)).map Fb.c) ∧ Below w.heap.size w wr) (fun _ _ _ i _ => m - (intOf i).toNat)
      case atStart => exact ⟨0, 0, cp, ao, [], Nat.zero_le _, rfl, rfl, by omega, ⟨hown, by simp, rfl⟩, hide (by simp [sumL]), hide (by simp [allL]), hb1⟩
      case round =>
        obtain ⟨k, n, cq, aq, gs, hk, rfl, rfl, hn, hM, HN, HA, hbw⟩ := hrel
        by_cases hlt : k < m
        · have hin0 := (hr.up (show k < ls.length by omega)).2
          have c0 := ((hr.on hbw).up (show k < ls.length by omega)).1
          have hk1 := unhide HS (k + 1)
          rw [List.take_succ_eq_append_getElem (show k < ls.length by omega), sumL_snoc, ← unhide HN] at hk1
          have HK' : Hid (n + ls[k].len = sumL (ls.take (k + 1))) := by
            refine hide ?_
            rw [List.take_succ_eq_append_getElem (show k < ls.length by omega), sumL_snoc, ← unhide HN]
          have HA' : Hid ((allL (ls.take (k + 1))).map Fb.c = (allL (ls.take k)).map Fb.c ++ ls[k].fs.map Fb.c) := by
            refine hide ?_
            rw [List.take_succ_eq_append_getElem (show k < ls.length by omega), allL_snoc, List.map_append]
          generalize ls[k] = x at c0 hin0 hk1 HK' HA'
          obtain ⟨xa, xl, xc, xs⟩ := x
          obtain ⟨hxr, hxl, hxL⟩ := hin0
          simp only at c0 hk1 HK' HA' hxr hxl hxL
          have hx1 : xl ≤ xs.length := by omega
          have hx2 : xs.length ≤ xl := by omega
          clear hxl
          go_wp2_with fail
          go_loopw [6, 10, 32] (fun v _ j wq => ∃ (q n' cq : Nat) (aq : Option Addr) (gs' : List Fb), q ≤ xl ∧ j = .int .i64 q ∧ v = .slice aq n' cq ∧ n' ≤ n + q ∧ n + q ≤ n' ∧ MadeL w.heap.size wq (.slice aq n' cq) n' gs' ∧ Hid (gs'.map Fb.c = (allL (ls.take k)).map Fb.c ++ (xs.take q).map Fb.c) ∧ Below w.heap.size w wq) (fun _ _ j _ => xl - (intOf j).toNat)
          case atStart => exact ⟨0, n, cq, aq, gs, Nat.zero_le _, rfl, rfl, by omega, by omega, hM, hide (by simpa using unhide HA), hbw⟩
          case round =>
            clear hM HA hbw c0
            obtain ⟨q, n', cq', aq', gs', hq, rfl, rfl, hn1, hn2, hM, HA, hbw⟩ := hrel
            by_cases hqt : q < xl
            · obtain ⟨b', o, ha, hbl, d0, d1, hfin⟩ := (hxr.on hbw).up (show q < xs.length by omega)
              subst ha
              have lf := hxL xs[q] (List.getElem_mem (by omega))
              have HE : Hid ((xs.take (q + 1)).map Fb.c = (xs.take q).map Fb.c ++ [xs[q].c]) := by
                refine hide ?_
                rw [List.take_succ_eq_append_getElem (show q < xs.length by omega), List.map_append]; rfl
              generalize xs[q] = f at d0 d1 hfin lf HE
              have hba : Below wr.heap.size wr (wr.alloc (bxO f)) := (Below.refl _ _).alloc (Nat.le_refl _) _
              go_wp2_with fail
              refine (copied_fb f _ (hfin.on hba) lf).mono ?_
              rintro e w2 ⟨g, rfl, hnew, hgc, hb2⟩
              have hM2 := (hM.on hba).on hb2
              have hbw2 := bt (bt hbw hba) hb2
              have hnew2 := hnew.mono (B' := w.heap.size) (by have := hbw.size; simp; omega)
              clear d0 d1 hb2 hba hnew hM hfin hbl
              have hsz := hbw2.size
              go_wp2_with (at_builtin; refine wpList_append_own_wide _ rfl _ _ 22 rfl w.heap.size 25 i0 (.agg #[.string ⟨#[]⟩, .slice none 0 0]) 2 40 Try.underlying22 hi hz0 hz1 hz2 rfl (by decide) _ n' (flatF gs') rfl (hM2.own.alloc _) ⟨w2.heap.size, 0, none⟩ 1 1 [.string g.n, .slice g.a g.len g.cap] rfl rfl ?c1 ?c2 ?c3 ?c4 ?c5 ?_)
              case c1 => exact cells_new [.string g.n, .slice g.a g.len g.cap] 25 rfl
              case c2 => intro u hu; simp at hu; rcases hu with rfl | rfl <;> rfl
              case c3 => unfold maxLen; omega
              case c4 => omega
              case c5 => simp; omega
              intro v' w3 hown3 hgrow hnil
              obtain ⟨aq3, cq3, rfl⟩ := own_slice hown3
              have hbb : Below w2.heap.size w2 (w2.alloc (.cells #[.string g.n, .slice g.a g.len g.cap] 25)) := (Below.refl _ _).alloc (Nat.le_refl _) _
              have hM3 := (hM2.on hbb).snoc (hnew2.on hbb) hown3 hgrow
              have hbw3 := (bt hbw2 hbb).grown hgrow (by simp; omega) (fun m hm => (hM2.own.lt m hm).1)
              have HA3 : Hid ((gs' ++ [g]).map Fb.c = (allL (ls.take k)).map Fb.c ++ (xs.take (q + 1)).map Fb.c) := by
                refine hide ?_
                rw [unhide HE, List.map_append, unhide HA, ← List.append_assoc]
                simp [hgc]
              clear hgrow hnil hM2 hbw2 hnew2 hown3 hbb HA HE hgc
              go_wp2_with fail
              go_roundw
              case rel => exact ⟨q + 1, n' + 1, cq3, aq3, gs' ++ [g], by omega, by go_num, rfl, by omega, by omega, hM3, HA3, hbw3⟩
              case measure => simp [intOf]; omega
            · have HE : Hid (gs'.map Fb.c = (allL (ls.take (k + 1))).map Fb.c) := by
                refine hide ?_
                rw [unhide HA, unhide HA', List.take_of_length_le (l := xs) (i := q) (by omega)]
              have HN' : Hid (n' = sumL (ls.take (k + 1))) := by
                refine hide ?_
                rw [← unhide HK']; omega
              go_wp2_with fail
              go_roundw
              case rel => exact ⟨k + 1, n', cq', aq', gs', by omega, by go_num, rfl, by omega, hM, HN', HE, hbw⟩
              case measure => simp [intOf]; omega
        · have HE : Hid (gs.map Fb.c = (allL ls).map Fb.c) := by
            refine hide ?_
            rw [unhide HA, List.take_of_length_le (by omega)]
          go_wp2_with fail
          go_ret
          exact ⟨aq, n, cq, gs, rfl, hM, HE, hbw⟩
end Go.Proofs.Ytmnonjacomabbaa

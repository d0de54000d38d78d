/- Joined: RvL RvM RvN RvO RvP. -/
import Derived.Test.YtcjnhhbcleljmaaGreatDoorRvZa
import Derived.Test.YtcjnhhbcleljmaaGreatDoorRunA
import Derived.Test.YtcjnhhbcleljmaaGreatDoorAtG
namespace Go.Proofs.YtcjnhhbcleljmaaGreatDoor.Sb
open Go.RowKit
open V
open Ex (RowO LiesO flatO liesO_own)

abbrev bs (l : List UInt8) : ByteArray := ⟨l.toArray⟩
set_option maxHeartbeats 2000000 in
theorem exprText_any (a : Option Addr) (len cap : Nat) (xs : List Oo) (s : ByteArray) (w : World) (he : Env w) (hA : LiesO w a len cap xs) (hL : ∀ x ∈ xs, LtO x) (H : Hid (exprB xs = true)) (HS : Hid (bs (textX xs) = s)) :
    Calls Tryz.prog 96 #[.slice a len cap] w fun e w' => e = .returned (.string s) ∧ Below w.heap.size w w' := by
  have F := expr_right a len cap xs s w he hA hL H HS
  clear hA hL H HS he
  go_enter Tryz.func96, Tryz.ntmps96
  go_wp2_with fail
  refine F.mono ?_
  rintro e w1 ⟨rfl, hb1⟩
  clear F
  go_wp2_with fail
  go_ret
  exact ⟨rfl, hb1⟩
set_option maxHeartbeats 4000000 in
set_option maxRecDepth 20000 in
theorem condText_any (c : Cd) (s : ByteArray) (w : World) (he : Env w) (hc : c.In w) (hL : c.Light) (H : Hid (rightC' c.pl = true)) (HS : Hid (bs (condT c.pl) = s)) :
    Calls Tryz.prog 51 #[.agg #[.int .i64 c.k, .string c.n, .slice c.a c.m c.mc, .int .i64 c.h, .slice c.la c.ll c.lc, .slice c.ra c.rl c.rc]] w fun e w' => e = .returned (.string s) ∧ Below w.heap.size w w' := by
  have hb0 := below_new w (bxC c)
  have T0 := bc_of (heap_alloc_new w (bxC c))
  have hc0 := hc.on hb0
  have he0 := he.on hb0
  have hr := unhide H
  by_cases hk : c.k = 1 ∨ c.k = 2
  · rw [right_has hk] at hr
    simp only [Bool.and_eq_true] at hr
    have hra := hr.1
    have HT := hide (show bs (if c.k = 1 then textA (c.n.data.toList, c.ts) else [110, 111, 116, 32] ++ textA (c.n.data.toList, c.ts)) = s by
      rw [← unhide HS]
      congr 1
      unfold condT Cd.pl
      simp only
      by_cases h1 : c.k = 1
      · rw [if_pos h1, if_pos h1]
      · rw [if_neg h1, if_neg h1, if_pos (by omega)])
    have htl := textA_len (a := (c.n.data.toList, c.ts)) hra
    obtain ⟨t, ht⟩ : ∃ t, bs (textA (c.n.data.toList, c.ts)) = t := ⟨_, rfl⟩
    have F := text_right c.n c.a c.m c.mc c.ts t _ he0 hc0.t (hide hra) (hide ht)
    have hts : t.size ≤ 700 := by rw [← ht]; exact htl
    have HT2 : Hid (c.k = 1 → t = s) := hide (fun h1 => by rw [← unhide HT, if_pos h1]; exact ht.symm)
    have HT3 : Hid (c.k = 2 → (⟨#[110, 111, 116, 32]⟩ : ByteArray) ++ t = s) := hide (fun h2 => by
      rw [← unhide HT, if_neg (by omega), ← ht]
      apply bytes_ext
      simp [ByteArray.data_append])
    obtain ⟨c0, c1, c2, c3, c4, c5⟩ := T0
    clear HT hr hra htl ht H HS hc hL he hc0 he0
    rcases hk with hk | hk
    · have d1 : (c.k == 1) = true := by simp [hk]
      have HQ := hide (unhide HT2 hk)
      clear HT2 HT3 hk
      go_enter Tryz.func51, Tryz.ntmps51
      go_wp2_with fail
      refine F.mono ?_
      rintro e w2 ⟨rfl, hb2⟩
      have T2 := (BC.mk (c := c) c0 c1 c2 c3 c4 c5).on hb2
      clear F c0 c1 c2 c3 c4 c5
      obtain ⟨c0, c1, c2, c3, c4, c5⟩ := T2
      go_wp2_with fail
      go_ret
      exact ⟨by rw [← unhide HQ]; rfl, bt hb0 hb2⟩
    · have d1 : (c.k == 1) = false := by simp [hk]
      have d2 : (c.k == 2) = true := by simp [hk]
      have HQ := hide (unhide HT3 hk)
      clear HT2 HT3 hk
      go_enter Tryz.func51, Tryz.ntmps51
      go_wp2_with fail
      refine F.mono ?_
      rintro e w2 ⟨rfl, hb2⟩
      have T2 := (BC.mk (c := c) c0 c1 c2 c3 c4 c5).on hb2
      clear F c0 c1 c2 c3 c4 c5
      obtain ⟨c0, c1, c2, c3, c4, c5⟩ := T2
      go_wp2_with fail
      go_ret
      exact ⟨by rw [← unhide HQ]; rfl, bt hb0 hb2⟩
  · have hg : c.k = 3 ∧ (c.n.data.toList, c.ts) = noA ∧ (1 ≤ c.h ∧ c.h ≤ 4) ∧ exprB c.xs = true ∧ exprB c.ys = true := by
      unfold rightC' Cd.pl at hr
      simp only at hr
      rw [if_neg hk] at hr
      simpa only [Bool.and_eq_true, decide_eq_true_eq] using hr
    obtain ⟨k3, hno, hh, hx, hy⟩ := hg
    have HT := hide (show bs ([91] ++ textX c.xs ++ [32] ++ howL c.h ++ [32] ++ textX c.ys ++ [93]) = s by
      rw [← unhide HS]
      congr 1
      unfold condT Cd.pl
      simp only
      rw [if_neg (by omega), if_neg (by omega)])
    have hxl := textX_len hx
    have hyl := textX_len hy
    have hhl := howL_len c.h
    obtain ⟨tx, htx⟩ : ∃ t, bs (textX c.xs) = t := ⟨_, rfl⟩
    obtain ⟨ty, hty⟩ : ∃ t, bs (textX c.ys) = t := ⟨_, rfl⟩
    obtain ⟨th, hth⟩ : ∃ t, bs (howL c.h) = t := ⟨_, rfl⟩
    have F0 := text_wrong c.n c.a c.m c.mc c.ts _ hc0.t hL.n hL.t (by have := hL.m; omega) (hide (by rw [right_same, hno]; exact noA_wrong))
    have FX := hide (fun V (hV : Below w.heap.size w V) => exprText_any c.la c.ll c.lc c.xs tx V (he.on hV) (hc.x.on hV) hL.x (hide hx) (hide htx))
    have FY := hide (fun V (hV : Below w.heap.size w V) => exprText_any c.ra c.rl c.rc c.ys ty V (he.on hV) (hc.y.on hV) hL.y (hide hy) (hide hty))
    have FM := hide (fun V => rmark_any c.h th V (hide hth))
    have HQ : Hid ((⟨#[91]⟩ : ByteArray) ++ tx ++ ⟨#[32]⟩ ++ th ++ ⟨#[32]⟩ ++ ty ++ ⟨#[93]⟩ = s) := hide (by
      rw [← unhide HT, ← htx, ← hty, ← hth]
      apply bytes_ext
      simp [ByteArray.data_append])
    have hs1 : tx.size ≤ 1900 := by rw [← htx]; exact hxl
    have hs2 : ty.size ≤ 1900 := by rw [← hty]; exact hyl
    have hs3 : th.size ≤ 2 := by rw [← hth]; exact hhl
    have d1 : (c.k == 1) = false := by simp; omega
    have d2 : (c.k == 2) = false := by simp; omega
    obtain ⟨c0, c1, c2, c3, c4, c5⟩ := T0
    clear HT hr hxl hyl hhl htx hty hth H HS hc hL he hc0 he0 hk k3 hno hh hx hy
    go_enter Tryz.func51, Tryz.ntmps51
    go_wp2_with fail
    refine F0.mono ?_
    rintro e w2 ⟨rfl, hb2⟩
    have T2 := (BC.mk (c := c) c0 c1 c2 c3 c4 c5).on hb2
    have hw2 := bt hb0 hb2
    clear F0 c0 c1 c2 c3 c4 c5 hb0 hb2
    obtain ⟨c0, c1, c2, c3, c4, c5⟩ := T2
    go_wp2_with fail
    have FX1 := cls (wr := w2) (fun V hV => unhide FX V (bt hw2 hV))
    have FY1 := cls (wr := w2) (fun V hV => unhide FY V (bt hw2 hV))
    have FM1 := cls (wr := w2) (fun V _ => (unhide FM V).mono (fun e w' h => ⟨h.1, by rw [h.2]; exact Below.refl _ _⟩))
    have p1 : ¬ 9223372036854775807 < 1 + tx.size := by omega
    have p2 : ¬ 9223372036854775807 < 1 + tx.size + 1 := by omega
    have p3 : ¬ 9223372036854775807 < 1 + tx.size + 1 + th.size := by omega
    have p4 : ¬ 9223372036854775807 < 1 + tx.size + 1 + th.size + 1 := by omega
    have p5 : ¬ 9223372036854775807 < 1 + tx.size + 1 + th.size + 1 + ty.size := by omega
    have p6 : ¬ 9223372036854775807 < 1 + tx.size + 1 + th.size + 1 + ty.size + 1 := by omega
    have qc3 := cell_regrown c3
    have qc4 := cell_regrown c4
    have qc5 := cell_regrown c5
    refine wp_region_quiet_below (by kernel_rfl) (by kernel_rfl) ?_
    repeat (go_big_quiet_step (first | with_reducible exact FX1 _ _ | with_reducible exact FM1 _ _ | with_reducible exact FY1 _ _))
    refine wpQuiet_nil ?_
    intro _ hww3
    obtain ⟨⟨dq, osq⟩, hxw3⟩ := hww3
    subst hxw3
    have hb3 := below_regrown w2 dq osq
    clear FX1 FM1 FY1 qc3 qc4 qc5
    generalize Sort.grow (redrawn w2 dq) osq = w3 at hb3 ⊢
    clear FX FY FM
    go_wp2_with fail
    go_ret
    exact ⟨by rw [← unhide HQ]; rfl, bt hw2 hb3⟩
end Go.Proofs.YtcjnhhbcleljmaaGreatDoor.Sb
namespace Go.Proofs.YtcjnhhbcleljmaaGreatDoor.Sb
open Go.RowKit
open V
open Ex (RowO LiesO flatO liesO_own)

/-- Texts' cells. -/
def flatS (ts : List ByteArray) : List Value := ts.map Value.string
theorem flatS_app (a b : List ByteArray) : flatS (a ++ b) = flatS a ++ flatS b := by simp [flatS]
theorem infoSt : (Tryz.prog.info? 9).map (fun i => (i.zero, i.size, i.bytes)) = some (some (.string ⟨#[]⟩), 1, 16) := by kernel_rfl
theorem own_texts {w : World} {B n cap : Nat} {a : Option Addr} {ts : List ByteArray} (h : w.ownsRow B 9 1 (.slice a n cap) n (flatS ts)) (h0 : 0 < n) : ∃ g, a = some ⟨g, 0, none⟩ ∧ g < w.heap.size ∧ n = ts.length ∧ n ≤ cap ∧ ∀ (j : Nat) x, ts[j]? = some x → w.cell? ⟨g, 0 + j, none⟩ = some (.string x) := by
  have hn : n = ts.length := by have := h.1; simp [flatS] at this; omega
  rcases h.2 with ⟨_, h1⟩ | ⟨g, cp, cur, hv, _, hg, hc, _, _, ht⟩
  · omega
  · simp only [Value.slice.injEq] at hv
    obtain ⟨rfl, _, rfl⟩ := hv
    refine ⟨g, rfl, (Array.getElem?_eq_some_iff.1 hg).1, hn, hc, fun j x hx => ?_⟩
    have hj : j < n := by rw [hn]; exact (List.getElem?_eq_some_iff.1 hx).1
    have hu : (flatS ts)[j]? = some (.string x) := by simp [flatS, hx]
    rw [← ht, List.getElem?_take_of_lt (by omega), Array.getElem?_toList] at hu
    rw [Lib.cell_of_heap hg, Nat.zero_add]
    exact hu
theorem app_s {w : World} {ops : Array Oper} {rest : List Oper} {o : Oper} {a : Act} {Q : Exit → Act → World → Prop} (hgd : o.guard = none) (s x : Operand)
    (ho : o.op = .call { callee := .builtin .append, args := #[s, x], argTypes := #[75, 75] }) (B k : Nat) (v : Value) (ts : List ByteArray) (t : ByteArray) (nb : Nat)
    (hs : a.eval s = v) (hx : a.eval x = .slice (some ⟨nb, 0, none⟩) 1 1) (hown : w.ownsRow B 9 1 v k (flatS ts)) (hnew : Hid (w.heap[nb]? = some (.cells #[.string t] 9))) (hlen : k ≤ 20000) (hB : B ≤ w.heap.size)
    (h : ∀ (ao : Option Addr) (cp : Nat) (w' : World), w'.ownsRow B 9 1 (.slice ao (k + 1) cp) (k + 1) (flatS (ts ++ [t])) → w.grownBy w' v.ownBlock → wpList Tryz.prog ops Q rest (a.put o.dst (.slice ao (k + 1) cp)) w') :
    wpList Tryz.prog ops Q (o :: rest) a w := by
  obtain ⟨i0, hi, hz0, hz1, hz2⟩ := info_parts infoSt
  refine wpList_append_own_at w hgd s x 75 ho B 9 i0 (.string ⟨#[]⟩) 1 16 Tryz.underlying75 hi hz0 hz1 hz2 rfl (by decide) v k (flatS ts) hs hown ⟨nb, 0, none⟩ 1 1 [.string t] hx rfl (fun j u hu => ?_) (fun u hu => ?_) (by unfold maxLen; omega) (by omega) hB ?_
  · rw [WideShapes.add_plain, Lib.cell_of_heap (unhide hnew)]
    match j, hu with
    | 0, hu => simpa using hu
    | j + 1, hu => simp at hu
  · rw [List.mem_singleton.1 hu]; rfl
  · intro v' w' h1 h2 _ _
    obtain ⟨ao, cp, rfl⟩ := own_slice h1
    refine h ao cp w' ?_ h2
    rw [flatS_app]
    exact h1
/-- What strings.Join answers of texts of the call's own. -/
theorem join_any {w : World} {B n cap : Nat} {a : Option Addr} {ts : List ByteArray} (s sep : ByteArray) (hsep : Hid (sep.data.toList = [44, 32])) (hO : w.ownsRow B 9 1 (.slice a n cap) n (flatS ts)) (h0 : 0 < n) (hn : n ≤ 20000) (hlen : (joinC (ts.map (·.data.toList))).length ≤ 1000000) (HS : Hid (bs (joinC (ts.map (·.data.toList))) = s)) :
    Calls Tryz.prog 94 #[.slice a n cap, .string sep] w fun e w' => e = .returned (.string s) ∧ Below w.heap.size w w' := by
  obtain ⟨g, rfl, hg, hl, hc, hcell⟩ := own_texts hO h0
  have hj := Tryz.strings_Join g 0 cap ts sep w hcell hg (by omega) (by omega) (by
    rw [unhide hsep]
    exact Nat.le_trans hlen (by decide))
  rw [unhide hsep, ← hl] at hj
  refine hj.mono ?_
  rintro e w' ⟨rfl, hb⟩
  exact ⟨by rw [← unhide HS]; rfl, hb⟩
set_option maxHeartbeats 4000000 in
set_option maxRecDepth 20000 in
theorem joined_exprs (a : Option Addr) (m mc : Nat) (es : List Ez) (s : ByteArray) (w : World) (he : Env w) (hA : LiesE w a m mc es) (hL : ∀ e ∈ es, e.Light) (hr : ∀ e ∈ es, exprB e.xs = true) (h0 : 0 < m) (h5 : m ≤ 20) (HS : Hid (bs (joinC (es.map (fun e => textX e.xs))) = s)) :
    Calls Tryz.prog 98 #[.slice a m mc, .func (.func 96) #[] #[]] w fun e w' => e = .returned (.string s) ∧ Below w.heap.size w w' := by
  have hle := hA.le
  have hge := hA.ge
  go_enter Tryz.func98, Tryz.ntmps98
  go_wp2_with fail
  go_loopw [5, 10] (fun v i wr => ∃ (k cap : Nat) (ao : Option Addr), k ≤ m ∧ i = .int .i64 k ∧ v = .slice ao k cap ∧ wr.ownsRow w.heap.size 9 1 (.slice ao k cap) k (flatS ((es.take k).map (fun e => bs (textX e.xs)))) ∧ Below w.heap.size w wr) (fun _ i _ => m - (intOf i).toNat)
  case atStart => exact ⟨0, 0, none, Nat.zero_le _, rfl, rfl, by simpa [flatS] using World.ownsRow_nil _ _ _ _, Below.refl _ _⟩
  case round =>
    obtain ⟨k, cap, ao, hk, rfl, rfl, hO, hbw⟩ := hrel
    have hB := hA.on hbw
    by_cases hlt : k < m
    · have hk' : k < es.length := by omega
      obtain ⟨b, o, ha, hbl, c0⟩ := hB.row.up hk'
      have hx := hB.all _ (List.getElem_mem hk')
      have hxL := hL _ (List.getElem_mem hk')
      have hxr := hr _ (List.getElem_mem hk')
      have HT : Hid ((es.take (k + 1)).map (fun e => bs (textX e.xs)) = (es.take k).map (fun e => bs (textX e.xs)) ++ [bs (textX es[k].xs)]) := hide (by rw [List.take_succ_eq_append_getElem hk', List.map_append]; rfl)
      subst ha
      generalize es[k] = y at c0 hx hxL hxr HT
      generalize (es.take k).map (fun e => bs (textX e.xs)) = ts at hO HT
      obtain ⟨t, ht⟩ : ∃ t, bs (textX y.xs) = t := ⟨_, rfl⟩
      rw [ht] at HT
      have F := hide (fun V (hV : Below w.heap.size w V) (hW : Below wr.heap.size wr V) => exprText_any y.a y.l y.c y.xs t V (he.on hV) (Ez.In.on hx hW) hxL.x (hide hxr) (hide ht))
      clear hx hxL hxr hB ht
      go_wp2_with fail
      refine (unhide F wr hbw (Below.refl _ _)).mono ?_
      rintro e w1 ⟨rfl, hb1⟩
      have hby := below_new w1 (.cells #[.string t] 9)
      have hown := own_on (own_on hO hb1) hby
      have hnew := hide (heap_alloc_new w1 (.cells #[.string t] 9))
      have hbw1 := bt (bt hbw hb1) hby
      have hsz := hbw1.size
      clear F hO hb1 hby c0
      go_wp2_with (at_builtin; refine app_s rfl _ _ rfl w.heap.size k (.slice ao k cap) ts t w1.heap.size rfl rfl hown hnew (by omega) hsz ?_)
      intro ao2 cp2 w2 hr2 hg2
      have hbw2 := hbw1.grown hg2 hsz (fun j hj => (hown.lt j hj).1)
      rw [← unhide HT] at hr2
      clear hown hnew hg2 hbw1
      go_wp2_with fail
      go_roundw
      case rel => exact ⟨k + 1, cp2, ao2, by omega, by go_num, rfl, hr2, hbw2⟩
      case measure => simp [intOf]; omega
    · have hkm : k = m := by omega
      subst hkm
      rw [List.take_of_length_le (by omega)] at hO
      have hts : ((es.map (fun e => bs (textX e.xs))).map (·.data.toList)) = es.map (fun e => textX e.xs) := by simp [List.map_map, Function.comp_def]
      have HJ := hide (join_any s ⟨#[44, 32]⟩ (hide rfl) hO h0 (by omega) (by
        rw [hts]
        have := join_le 1900 (l := es.map (fun e => textX e.xs)) (fun x hx => by
          obtain ⟨y, hy, rfl⟩ := List.mem_map.1 hx
          exact textX_len (hr y hy))
        rw [List.length_map] at this
        have h2 := Nat.mul_le_mul_left 1902 (show es.length ≤ 20 by omega)
        omega) (by rw [hts]; exact HS))
      clear hO hB hA hL hr HS hts
      go_wp2_with fail
      refine (unhide HJ).mono ?_
      rintro e w1 ⟨rfl, hb1⟩
      go_wp2_with fail
      go_ret
      exact ⟨rfl, bt hbw hb1⟩
end Go.Proofs.YtcjnhhbcleljmaaGreatDoor.Sb
namespace Go.Proofs.YtcjnhhbcleljmaaGreatDoor.Sb
open Go.RowKit
open V
open Ex (RowO LiesO flatO liesO_own)

set_option maxHeartbeats 4000000 in
set_option maxRecDepth 20000 in
theorem actText_any (z : Az) (N : Nat) (s : ByteArray) (w : World) (he : Env w) (hz : z.In w) (hL : z.Soft) (hN : N ≤ 6) (H : Hid (rightAct N z.pl = true)) (HS : Hid (bs (actT z.pl) = s)) :
    Calls Tryz.prog 53 #[.agg #[.int .i64 z.k, .string z.n, .slice z.a z.m z.mc, .int .i64 z.wh]] w fun e w' => e = .returned (.string s) ∧ Below w.heap.size w w' := by
  have hb0 := below_new w (bxZ z)
  have Z0 := bz_of (heap_alloc_new w (bxZ z))
  have hme := LiesE.le hz
  have hmg := LiesE.ge hz
  have hr := unhide H
  by_cases hk1 : z.k = 1
  · rw [act1 hk1] at hr
    simp only [Bool.and_eq_true, decide_eq_true_eq, List.all_eq_true] at hr
    obtain ⟨h2, h3, h4, -⟩ := hr
    have hnl := name_short h2
    rw [← size_len] at hnl
    have d1 : (z.k == 2) = false := by simp; omega
    by_cases hm : z.m = 0
    · have HQ : Hid ((⟨#[43]⟩ : ByteArray) ++ z.n = s) := hide (by
        rw [← unhide HS]
        apply bytes_ext
        have he0 : z.es = [] := List.eq_nil_of_length_eq_zero (by omega)
        simp [actT, Az.pl, hk1, he0, ByteArray.data_append])
      have d2 : ((z.m : Int) == 0) = true := by simp [hm]
      obtain ⟨x0, x1, x2, x3⟩ := Z0
      clear H HS h2 h3 h4 hk1 hm hz hL he
      go_enter Tryz.func53, Tryz.ntmps53
      go_wp2_with fail
      go_ret
      exact ⟨by rw [← unhide HQ]; rfl, hb0⟩
    · have hj := joinX_len (l := z.es.map Ez.xs) (by rw [List.length_map]; exact h3) (fun x hx => by
        obtain ⟨e, he', rfl⟩ := List.mem_map.1 hx
        exact h4 e he')
      rw [List.map_map] at hj
      obtain ⟨t, ht⟩ : ∃ t, bs (joinC (z.es.map (fun e => textX e.xs))) = t := ⟨_, rfl⟩
      have hts : t.size ≤ 9600 := by rw [← ht]; exact hj
      have HQ : Hid ((⟨#[43]⟩ : ByteArray) ++ z.n ++ ⟨#[40]⟩ ++ t ++ ⟨#[41]⟩ = s) := hide (by
        rw [← unhide HS, ← ht]
        apply bytes_ext
        have he0 : z.es ≠ [] := by rintro e; rw [e] at hme; simp at hme; omega
        simp [actT, Az.pl, hk1, he0, ByteArray.data_append, List.map_map, Function.comp_def])
      have F := hide (fun V (hV : Below w.heap.size w V) => joined_exprs z.a z.m z.mc z.es t V (he.on hV) (LiesE.on hz hV) hL.e h4 (by omega) (by omega) (hide ht))
      have d2 : ((z.m : Int) == 0) = false := by simp [hm]
      obtain ⟨x0, x1, x2, x3⟩ := Z0
      clear H HS h2 h3 h4 hk1 hm hz hL he hj ht
      have FC := cls (wr := w.alloc (bxZ z)) (fun V hV => unhide F V (bt hb0 hV))
      have p1 : ¬ 9223372036854775807 < 1 + z.n.size := by omega
      have p2 : ¬ 9223372036854775807 < 1 + z.n.size + 1 := by omega
      have p3 : ¬ 9223372036854775807 < 1 + z.n.size + 1 + t.size := by omega
      have p4 : ¬ 9223372036854775807 < 1 + z.n.size + 1 + t.size + 1 := by omega
      clear F
      go_enter Tryz.func53, Tryz.ntmps53
      go_wp2_with fail
      generalize w.alloc (bxZ z) = W1 at FC x0 x1 x2 x3 hb0 ⊢
      have qx1 := cell_regrown x1
      have qx2 := cell_regrown x2
      refine wp_region_quiet_below (by kernel_rfl) (by kernel_rfl) ?_
      repeat (go_big_quiet_step (with_reducible exact FC _ _))
      refine wpQuiet_nil ?_
      intro _ hww3
      obtain ⟨⟨dq, osq⟩, hxw3⟩ := hww3
      subst hxw3
      have hb3 := below_regrown W1 dq osq
      clear FC qx1 qx2
      generalize Sort.grow (redrawn W1 dq) osq = w3 at hb3 ⊢
      go_wp2_with fail
      go_ret
      exact ⟨by rw [← unhide HQ]; rfl, bt hb0 hb3⟩
  · have hg : z.k = 2 ∧ 0 ≤ z.wh ∧ z.wh < (N : Int) := by
      unfold rightAct Az.pl at hr
      simp only at hr
      rw [if_neg hk1] at hr
      simp only [Bool.and_eq_true, decide_eq_true_eq] at hr
      exact ⟨hr.1, hr.2.2⟩
    obtain ⟨hk2, hw0, hw1⟩ := hg
    have hil := Lib.itoa_length_le z.wh (by omega) (by omega)
    obtain ⟨t, ht⟩ : ∃ t, bs (Lib.itoa z.wh) = t := ⟨_, rfl⟩
    have hts : t.size ≤ 21 := by rw [← ht]; exact hil
    have HQ : Hid ((⟨#[100, 114, 111, 112, 32]⟩ : ByteArray) ++ t = s) := hide (by
      rw [← unhide HS, ← ht]
      apply bytes_ext
      simp [actT, Az.pl, hk2, ByteArray.data_append])
    have F := itoa_any z.wh (by omega) (by omega)
    rw [show (⟨(Lib.itoa z.wh).toArray⟩ : ByteArray) = t from ht] at F
    have FC := hide (F (w.alloc (bxZ z)) (he.on hb0))
    have d1 : (z.k == 2) = true := by simp [hk2]
    obtain ⟨x0, x1, x2, x3⟩ := Z0
    have p1 : ¬ 9223372036854775807 < 5 + t.size := by omega
    clear H HS hk1 hk2 hz hL he hr ht hil hw0 hw1 F
    go_enter Tryz.func53, Tryz.ntmps53
    go_wp2_with fail
    refine (unhide FC).mono ?_
    rintro e w2 ⟨rfl, hb2⟩
    go_wp2_with fail
    go_ret
    exact ⟨by rw [← unhide HQ]; rfl, bt hb0 hb2⟩
end Go.Proofs.YtcjnhhbcleljmaaGreatDoor.Sb
namespace Go.Proofs.YtcjnhhbcleljmaaGreatDoor.Sb
open Go.RowKit
open V
open Ex (RowO LiesO flatO liesO_own)

set_option maxHeartbeats 4000000 in
set_option maxRecDepth 20000 in
theorem joined_conds (a : Option Addr) (m mc : Nat) (es : List Cd) (s : ByteArray) (w : World) (he : Env w) (hA : LiesC w a m mc es) (hL : ∀ e ∈ es, e.Light) (hr : ∀ e ∈ es, rightC' e.pl = true) (h0 : 0 < m) (h5 : m ≤ 20) (HS : Hid (bs (joinC (es.map (fun e => condT e.pl))) = s)) :
    Calls Tryz.prog 50 #[.slice a m mc, .func (.func 51) #[] #[]] w fun e w' => e = .returned (.string s) ∧ Below w.heap.size w w' := by
  have hle := hA.le
  have hge := hA.ge
  go_enter Tryz.func50, Tryz.ntmps50
  go_wp2_with fail
  go_loopw [5, 10] (fun v i wr => ∃ (k cap : Nat) (ao : Option Addr), k ≤ m ∧ i = .int .i64 k ∧ v = .slice ao k cap ∧ wr.ownsRow w.heap.size 9 1 (.slice ao k cap) k (flatS ((es.take k).map (fun e => bs (condT e.pl)))) ∧ Below w.heap.size w wr) (fun _ i _ => m - (intOf i).toNat)
  case atStart => exact ⟨0, 0, none, Nat.zero_le _, rfl, rfl, by simpa [flatS] using World.ownsRow_nil _ _ _ _, Below.refl _ _⟩
  case round =>
    obtain ⟨k, cap, ao, hk, rfl, rfl, hO, hbw⟩ := hrel
    have hB := hA.on hbw
    by_cases hlt : k < m
    · have hk' : k < es.length := by omega
      obtain ⟨b, o, ha, hbl, c0, c1, c2, c3, c4, c5⟩ := hB.row.up hk'
      have hx := hB.all _ (List.getElem_mem hk')
      have hxL := hL _ (List.getElem_mem hk')
      have hxr := hr _ (List.getElem_mem hk')
      have HT : Hid ((es.take (k + 1)).map (fun e => bs (condT e.pl)) = (es.take k).map (fun e => bs (condT e.pl)) ++ [bs (condT es[k].pl)]) := hide (by rw [List.take_succ_eq_append_getElem hk', List.map_append]; rfl)
      subst ha
      generalize es[k] = y at c0 c1 c2 c3 c4 c5 hx hxL hxr HT
      generalize (es.take k).map (fun e => bs (condT e.pl)) = ts at hO HT
      obtain ⟨t, ht⟩ : ∃ t, bs (condT y.pl) = t := ⟨_, rfl⟩
      rw [ht] at HT
      have F := hide (fun V (hV : Below w.heap.size w V) (hW : Below wr.heap.size wr V) => condText_any y t V (he.on hV) (hx.on hW) hxL (hide hxr) (hide ht))
      clear hx hxL hxr hB ht
      go_wp2_with fail
      have hbx := below_new wr (bxC y)
      refine (unhide F _ (bt hbw hbx) hbx).mono ?_
      rintro e w1 ⟨rfl, hb1⟩
      have hby := below_new w1 (.cells #[.string t] 9)
      have hown := own_on (own_on (own_on hO hbx) hb1) hby
      have hnew := hide (heap_alloc_new w1 (.cells #[.string t] 9))
      have hbw1 := bt (bt (bt hbw hbx) hb1) hby
      have hsz := hbw1.size
      clear F hO hb1 hby hbx c0 c1 c2 c3 c4 c5
      go_wp2_with (at_builtin; refine app_s rfl _ _ rfl w.heap.size k (.slice ao k cap) ts t w1.heap.size rfl rfl hown hnew (by omega) hsz ?_)
      intro ao2 cp2 w2 hr2 hg2
      have hbw2 := hbw1.grown hg2 hsz (fun j hj => (hown.lt j hj).1)
      rw [← unhide HT] at hr2
      clear hown hnew hg2 hbw1
      go_wp2_with fail
      go_roundw
      case rel => exact ⟨k + 1, cp2, ao2, by omega, by go_num, rfl, hr2, hbw2⟩
      case measure => simp [intOf]; omega
    · have hkm : k = m := by omega
      subst hkm
      rw [List.take_of_length_le (by omega)] at hO
      have hts : ((es.map (fun e => bs (condT e.pl))).map (·.data.toList)) = es.map (fun e => condT e.pl) := by simp [List.map_map, Function.comp_def]
      have HJ := hide (join_any s ⟨#[44, 32]⟩ (hide rfl) hO h0 (by omega) (by
        rw [hts]
        have := join_le 4000 (l := es.map (fun e => condT e.pl)) (fun x hx => by
          obtain ⟨y, hy, rfl⟩ := List.mem_map.1 hx
          exact condT_len (hr y hy))
        rw [List.length_map] at this
        have h2 := Nat.mul_le_mul_left 4002 (show es.length ≤ 20 by omega)
        omega) (by rw [hts]; exact HS))
      clear hO hB hA hL hr HS hts
      go_wp2_with fail
      refine (unhide HJ).mono ?_
      rintro e w1 ⟨rfl, hb1⟩
      go_wp2_with fail
      go_ret
      exact ⟨rfl, bt hbw hb1⟩
set_option maxHeartbeats 4000000 in
set_option maxRecDepth 20000 in
theorem joined_acts (a : Option Addr) (m mc : Nat) (es : List Az) (s : ByteArray) (w : World) (he : Env w) (hA : LiesA w a m mc es) (hL : ∀ e ∈ es, e.Soft) (N : Nat) (hN : N ≤ 6) (hr : ∀ e ∈ es, rightAct N e.pl = true) (h0 : 0 < m) (h5 : m ≤ 20) (HS : Hid (bs (joinC (es.map (fun e => actT e.pl))) = s)) :
    Calls Tryz.prog 52 #[.slice a m mc, .func (.func 53) #[] #[]] w fun e w' => e = .returned (.string s) ∧ Below w.heap.size w w' := by
  have hle := hA.le
  have hge := hA.ge
  go_enter Tryz.func52, Tryz.ntmps52
  go_wp2_with fail
  go_loopw [5, 10] (fun v i wr => ∃ (k cap : Nat) (ao : Option Addr), k ≤ m ∧ i = .int .i64 k ∧ v = .slice ao k cap ∧ wr.ownsRow w.heap.size 9 1 (.slice ao k cap) k (flatS ((es.take k).map (fun e => bs (actT e.pl)))) ∧ Below w.heap.size w wr) (fun _ i _ => m - (intOf i).toNat)
  case atStart => exact ⟨0, 0, none, Nat.zero_le _, rfl, rfl, by simpa [flatS] using World.ownsRow_nil _ _ _ _, Below.refl _ _⟩
  case round =>
    obtain ⟨k, cap, ao, hk, rfl, rfl, hO, hbw⟩ := hrel
    have hB := hA.on hbw
    by_cases hlt : k < m
    · have hk' : k < es.length := by omega
      obtain ⟨b, o, ha, hbl, c0, c1, c2, c3⟩ := hB.row.up hk'
      have hx := hB.all _ (List.getElem_mem hk')
      have hxL := hL _ (List.getElem_mem hk')
      have hxr := hr _ (List.getElem_mem hk')
      have HT : Hid ((es.take (k + 1)).map (fun e => bs (actT e.pl)) = (es.take k).map (fun e => bs (actT e.pl)) ++ [bs (actT es[k].pl)]) := hide (by rw [List.take_succ_eq_append_getElem hk', List.map_append]; rfl)
      subst ha
      generalize es[k] = y at c0 c1 c2 c3 hx hxL hxr HT
      generalize (es.take k).map (fun e => bs (actT e.pl)) = ts at hO HT
      obtain ⟨t, ht⟩ : ∃ t, bs (actT y.pl) = t := ⟨_, rfl⟩
      rw [ht] at HT
      have F := hide (fun V (hV : Below w.heap.size w V) (hW : Below wr.heap.size wr V) => actText_any y N t V (he.on hV) (Az.In.on hx hW) hxL hN (hide hxr) (hide ht))
      clear hx hxL hxr hB ht
      go_wp2_with fail
      have hbx := below_new wr (bxZ y)
      refine (unhide F _ (bt hbw hbx) hbx).mono ?_
      rintro e w1 ⟨rfl, hb1⟩
      have hby := below_new w1 (.cells #[.string t] 9)
      have hown := own_on (own_on (own_on hO hbx) hb1) hby
      have hnew := hide (heap_alloc_new w1 (.cells #[.string t] 9))
      have hbw1 := bt (bt (bt hbw hbx) hb1) hby
      have hsz := hbw1.size
      clear F hO hb1 hby hbx c0 c1 c2 c3
      go_wp2_with (at_builtin; refine app_s rfl _ _ rfl w.heap.size k (.slice ao k cap) ts t w1.heap.size rfl rfl hown hnew (by omega) hsz ?_)
      intro ao2 cp2 w2 hr2 hg2
      have hbw2 := hbw1.grown hg2 hsz (fun j hj => (hown.lt j hj).1)
      rw [← unhide HT] at hr2
      clear hown hnew hg2 hbw1
      go_wp2_with fail
      go_roundw
      case rel => exact ⟨k + 1, cp2, ao2, by omega, by go_num, rfl, hr2, hbw2⟩
      case measure => simp [intOf]; omega
    · have hkm : k = m := by omega
      subst hkm
      rw [List.take_of_length_le (by omega)] at hO
      have hts : ((es.map (fun e => bs (actT e.pl))).map (·.data.toList)) = es.map (fun e => actT e.pl) := by simp [List.map_map, Function.comp_def]
      have HJ := hide (join_any s ⟨#[44, 32]⟩ (hide rfl) hO h0 (by omega) (by
        rw [hts]
        have := join_le 10000 (l := es.map (fun e => actT e.pl)) (fun x hx => by
          obtain ⟨y, hy, rfl⟩ := List.mem_map.1 hx
          exact actT_len hN (hr y hy))
        rw [List.length_map] at this
        have h2 := Nat.mul_le_mul_left 10002 (show es.length ≤ 20 by omega)
        omega) (by rw [hts]; exact HS))
      clear hO hB hA hL hr HS hts
      go_wp2_with fail
      refine (unhide HJ).mono ?_
      rintro e w1 ⟨rfl, hb1⟩
      go_wp2_with fail
      go_ret
      exact ⟨rfl, bt hbw hb1⟩
end Go.Proofs.YtcjnhhbcleljmaaGreatDoor.Sb
namespace Go.Proofs.YtcjnhhbcleljmaaGreatDoor.Sb
open Go.RowKit
open V
open Ex (RowO LiesO flatO liesO_own)

set_option maxHeartbeats 4000000 in
set_option maxRecDepth 20000 in
theorem rtext_wrong (r : Rz) (w : World) (hr : r.In w) (hL : r.Soft) (H : Hid (rightR r.pl = false)) :
    Calls Tryz.prog 11 #[.agg #[.string r.n, .int .i64 r.p, .slice r.ca r.cl r.cc, .slice r.aa r.al r.ac]] w fun e w' => e = .returned (.tuple #[.string ⟨#[]⟩, .int .i64 1]) ∧ Below w.heap.size w w' := by
  have hb0 := below_new w (bxR r)
  have T0 : BR _ _ r := br_of (heap_alloc_new w (bxR r))
  have F := check_any r _ (hr.on hb0) hL
  rw [unhide H] at F
  obtain ⟨c0, c1, c2, c3⟩ := T0
  clear hr hL H
  go_enter Tryz.func11, Tryz.ntmps11
  go_wp2_with fail
  refine F.mono ?_
  rintro e w1 ⟨rfl, hb1⟩
  rw [show chk false = 1 from rfl]
  clear F c0 c1 c2 c3
  go_wp2_with fail
  refine bodyPost_ret (v := .tuple #[.string ⟨#[]⟩, .int .i64 1]) (by simp [results, Tryz.results11, go_sem]) rfl ?_
  exact ⟨rfl, bt hb0 hb1⟩
/-- What rules.Text answers of a right rule. -/
def TextRes (l : List UInt8) (e : Ending) : Prop := (l.length ≤ 20000 → e = .returned (.tuple #[.string (bs l), .int .i64 0])) ∧ (20000 < l.length → e = .returned (.tuple #[.string ⟨#[]⟩, .int .i64 2]))
set_option maxHeartbeats 8000000 in
set_option maxRecDepth 20000 in
theorem rtext_right (r : Rz) (w : World) (he : Env w) (hr : r.In w) (hL : r.Soft) (H : Hid (rightR r.pl = true)) :
    Calls Tryz.prog 11 #[.agg #[.string r.n, .int .i64 r.p, .slice r.ca r.cl r.cc, .slice r.aa r.al r.ac]] w fun e w' => TextRes (textR r.pl) e ∧ Below w.heap.size w w' := by
  have hb0 := below_new w (bxR r)
  have T0 : BR _ _ r := br_of (heap_alloc_new w (bxR r))
  have F := check_any r _ (hr.on hb0) hL
  rw [unhide H] at F
  have hcl : r.cl = r.cs.length := by have := hr.c.le; have := hr.c.ge; omega
  have hal : r.al = r.zs.length := by have := hr.a.le; have := hr.a.ge; omega
  have hR := unhide H
  obtain ⟨h1, h2, h3, h4, h5, h6, h7⟩ := right_iff.1 hR
  have hnl := name_short h1
  simp only [Rz.pl, List.length_map] at h1 h2 h3 h5 h6 h7 hnl
  rw [← size_len] at hnl
  have hN := hasN_le (r.cs.map Cd.pl)
  rw [List.length_map] at hN
  have jc := conds_len hR
  have ja := acts_len hR
  simp only [Rz.pl, List.map_map] at jc ja
  obtain ⟨tc, htc⟩ : ∃ t, bs (joinC (r.cs.map (fun c => condT c.pl))) = t := ⟨_, rfl⟩
  obtain ⟨ta, hta⟩ : ∃ t, bs (joinC (r.zs.map (fun z => actT z.pl))) = t := ⟨_, rfl⟩
  have hil := Lib.itoa_length_le r.p (by omega) (by omega)
  obtain ⟨tp, htp⟩ : ∃ t, bs (Lib.itoa r.p) = t := ⟨_, rfl⟩
  have hcs : tc.size ≤ 24100 := by rw [← htc]; exact jc
  have has : ta.size ≤ 60100 := by rw [← hta]; exact ja
  have hps : tp.size ≤ 21 := by rw [← htp]; exact hil
  have HT : Hid ((⟨#[114, 117, 108, 101, 32]⟩ : ByteArray) ++ r.n ++ ⟨#[32]⟩ ++ tp ++ ⟨#[58, 32]⟩ ++ tc ++ ⟨#[32, 45, 62, 32]⟩ ++ ta ++ ⟨#[46]⟩ = bs (textR r.pl)) := hide (by
    rw [textR_is hR, ← htc, ← hta, ← htp]
    apply bytes_ext
    simp [ruleT, Rz.pl, ByteArray.data_append, List.map_map, Function.comp_def])
  have FP := hide (fun V (hV : Below w.heap.size w V) => itoa_any r.p (by omega) (by omega) V (he.on hV))
  rw [show (⟨(Lib.itoa r.p).toArray⟩ : ByteArray) = tp from htp] at FP
  have FC := hide (fun V (hV : Below w.heap.size w V) => joined_conds r.ca r.cl r.cc r.cs tc V (he.on hV) (hr.on hV).c hL.cs (fun c hc => h6 _ (List.mem_map_of_mem hc)) (by omega) (by omega) (hide htc))
  have FA := hide (fun V (hV : Below w.heap.size w V) => joined_acts r.aa r.al r.ac r.zs ta V (he.on hV) (hr.on hV).a hL.zs (hasN (r.cs.map Cd.pl)) (by omega) (fun c hc => h7 _ (List.mem_map_of_mem hc)) (by omega) (by omega) (hide hta))
  have HL : Hid ((textR r.pl).length = 5 + r.n.size + 1 + tp.size + 2 + tc.size + 4 + ta.size + 1) := hide (by
    have e := congrArg ByteArray.size (unhide HT)
    simp only [ByteArray.size_append] at e
    exact e.symm)
  obtain ⟨c0, c1, c2, c3⟩ := T0
  clear hr hL H h1 h2 h3 h4 h5 h6 h7 hN jc ja htc hta hil htp hcl hal he
  go_enter Tryz.func11, Tryz.ntmps11
  go_wp2_with fail
  refine F.mono ?_
  rintro e w1 ⟨rfl, hb1⟩
  rw [show chk true = 0 from rfl]
  have T1 := (BR.mk (r := r) c0 c1 c2 c3).on hb1
  have hw1 := bt hb0 hb1
  clear F c0 c1 c2 c3 hb0 hb1
  obtain ⟨c0, c1, c2, c3⟩ := T1
  have p1 : ¬ 9223372036854775807 < 5 + r.n.size := by omega
  have p2 : ¬ 9223372036854775807 < 5 + r.n.size + 1 := by omega
  have p3 : ¬ 9223372036854775807 < 5 + r.n.size + 1 + tp.size := by omega
  go_wp2_with fail
  have FP1 := cls (wr := w1) (fun V hV => unhide FP V (bt hw1 hV))
  have qc0 := cell_regrown c0
  have qc1 := cell_regrown c1
  refine wp_region_quiet_below (by kernel_rfl) (by kernel_rfl) ?_
  repeat (go_big_quiet_step (with_reducible exact FP1 _ _))
  refine wpQuiet_nil ?_
  intro _ hww2
  obtain ⟨⟨dq, osq⟩, hxw2⟩ := hww2
  subst hxw2
  have hb2 := below_regrown w1 dq osq
  clear FP1 qc0 qc1
  generalize Sort.grow (redrawn w1 dq) osq = w2 at hb2 ⊢
  have hw2 := bt hw1 hb2
  have T2 := (BR.mk (r := r) c0 c1 c2 c3).on hb2
  clear c0 c1 c2 c3 hb2 hw1 FP p1 p2 p3
  obtain ⟨-, -, c2, c3⟩ := T2
  obtain ⟨hd, hhd⟩ : ∃ hd, (⟨#[114, 117, 108, 101, 32]⟩ : ByteArray) ++ r.n ++ ⟨#[32]⟩ ++ tp = hd := ⟨_, rfl⟩
  have hds : hd.size = 5 + r.n.size + 1 + tp.size := by rw [← hhd]; simp only [ByteArray.size_append]; rfl
  rw [hhd] at HT ⊢
  have hdl : hd.size ≤ 60 := by omega
  have HL2 : Hid ((textR r.pl).length = hd.size + 2 + tc.size + 4 + ta.size + 1) := hide (by rw [unhide HL, hds])
  clear hhd hds HL hnl hps
  have p1 : ¬ 9223372036854775807 < hd.size + 2 := by omega
  have p2 : ¬ 9223372036854775807 < hd.size + 2 + tc.size := by omega
  have p3 : ¬ 9223372036854775807 < hd.size + 2 + tc.size + 4 := by omega
  have p4 : ¬ 9223372036854775807 < hd.size + 2 + tc.size + 4 + ta.size := by omega
  have p5 : ¬ 9223372036854775807 < hd.size + 2 + tc.size + 4 + ta.size + 1 := by omega
  go_wp2_with fail
  have FC1 := cls (wr := w2) (fun V hV => unhide FC V (bt hw2 hV))
  have FA1 := cls (wr := w2) (fun V hV => unhide FA V (bt hw2 hV))
  have qc2 := cell_regrown c2
  have qc3 := cell_regrown c3
  refine wp_region_quiet_below (by kernel_rfl) (by kernel_rfl) ?_
  repeat (go_big_quiet_step (first | with_reducible exact FC1 _ _ | with_reducible exact FA1 _ _))
  refine wpQuiet_nil ?_
  intro _ hww3
  obtain ⟨⟨dq, osq⟩, hxw3⟩ := hww3
  subst hxw3
  have hb3 := below_regrown w2 dq osq
  clear FC1 FA1 qc2 qc3
  generalize Sort.grow (redrawn w2 dq) osq = w3 at hb3 ⊢
  have hw3 := bt hw2 hb3
  clear hw2 hb3 c2 c3 FC FA p1 p2 p3 p4 p5
  obtain ⟨tx, htx⟩ : ∃ tx, hd ++ ⟨#[58, 32]⟩ ++ tc ++ ⟨#[32, 45, 62, 32]⟩ ++ ta ++ ⟨#[46]⟩ = tx := ⟨_, rfl⟩
  rw [htx] at HT ⊢
  have hxs : tx.size = (textR r.pl).length := by rw [unhide HT]; rfl
  clear htx
  have HXS := hide hxs
  clear hxs
  by_cases h : tx.size ≤ 20000
  · have d1 : ¬ 20000 < tx.size := by omega
    have HLE := hide h
    clear h
    go_wp2_with fail
    refine bodyPost_ret (v := .tuple #[.string tx, .int .i64 0]) (by simp [results, Tryz.results11, go_sem]) rfl ?_
    exact ⟨⟨fun _ => by rw [unhide HT], fun hgt => by have := unhide HXS; have := unhide HLE; omega⟩, hw3⟩
  · have d1 : 20000 < tx.size := by omega
    have HLE := hide d1
    clear h
    go_wp2_with fail
    refine bodyPost_ret (v := .tuple #[.string ⟨#[]⟩, .int .i64 2]) (by simp [results, Tryz.results11, go_sem]) rfl ?_
    exact ⟨⟨fun hle => by have := unhide HXS; have := unhide HLE; omega, fun _ => rfl⟩, hw3⟩
end Go.Proofs.YtcjnhhbcleljmaaGreatDoor.Sb

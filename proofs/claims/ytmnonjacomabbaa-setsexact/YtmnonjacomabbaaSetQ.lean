/- What the document's own Put, Drop, Of answer. -/
import Derived.Test.YtmnonjacomabbaaSetX
namespace Go.Proofs.Ytmnonjacomabbaa
open Go.RowKit
open V

/-- Into its place, as facts lie in memory. -/
def insF (f : Fb) : List Fb → List Fb
  | [] => [f]
  | y :: r => if cmpF f.l y.l < 0 then f :: y :: r else y :: insF f r
theorem insF_l (f : Fb) : ∀ fs : List Fb, (insF f fs).map Fb.l = insL cmpF f.l (fs.map Fb.l)
  | [] => rfl
  | y :: r => by
    simp only [insF, insL, List.map_cons]
    split
    · rfl
    · rw [List.map_cons, insF_l f r]
theorem insF_mem (f : Fb) : ∀ fs : List Fb, ∀ g ∈ insF f fs, g = f ∨ g ∈ fs
  | [], g, h => by simp [insF] at h; exact Or.inl h
  | y :: r, g, h => by
    unfold insF at h
    split at h
    · rcases List.mem_cons.1 h with h | h
      · exact Or.inl h
      · exact Or.inr h
    · rcases List.mem_cons.1 h with h | h
      · exact Or.inr (by simp [h])
      · rcases insF_mem f r g h with h | h
        · exact Or.inl h
        · exact Or.inr (by simp [h])
theorem insF_step {f : Fb} {fs : List Fb} {k : Nat} (hk : k < fs.length) (h : insF f fs = fs.take k ++ insF f (fs.drop k)) (hz : ¬ cmpF f.l fs[k].l < 0) : insF f fs = fs.take (k + 1) ++ insF f (fs.drop (k + 1)) := by
  rw [h, List.take_succ_eq_append_getElem hk, List.append_assoc]
  congr 1
  rw [List.drop_eq_getElem_cons hk]
  simp only [insF]
  rw [if_neg hz]
  rfl
theorem insF_here {f : Fb} {fs : List Fb} {k : Nat} (hk : k < fs.length) (h : insF f fs = fs.take k ++ insF f (fs.drop k)) (hz : cmpF f.l fs[k].l < 0) : insF f fs = (fs.take k ++ [f] ++ [fs[k]]) ++ fs.drop (k + 1) := by
  rw [h, List.drop_eq_getElem_cons hk]
  simp [insF, hz]

theorem keepFact_b (f g : Fb) (q : Bool) (w : World) (hf : f.In w) (hg : g.In w) (h20 : f.len ≤ 1000) (H : Hid (decide (f.l = g.l) = q)) :
    Calls Try.prog 26 #[.agg #[.string f.n, .slice f.a f.len f.cap], .agg #[.string g.n, .slice g.a g.len g.cap]] w fun e w' => e = .returned (.bool q) ∧ Below w.heap.size w w' :=
  (keepFact_q f g q w hf hg h20 H).mono (fun _ _ h => ⟨h.1, h.2.1⟩)

theorem one2 (x : Fb) : ∀ u ∈ [Value.string x.n, .slice x.a x.len x.cap], u.oneCell' = true := flatF_oneCell [x]
theorem app_facts {n : Nat} (h : n ≤ 400) : Hid (n + 1 ≤ maxLen) ∧ Hid (((n + 1) + (n + 1) / 4 + 192) * 40 ≤ 281474976710656) := ⟨hide (by unfold maxLen; omega), hide (by omega)⟩

/-- A list that lies in memory, with what it is made of. -/
structure Lies (w : World) (a : Option Addr) (n : Nat) (gs : List Fb) (l : List Fc) : Prop where
  row : RowF w a gs
  len : n = gs.length
  light : ∀ g ∈ gs, g.Light
  eq : gs.map Fb.l = l
theorem Lies.on {w w' : World} {a : Option Addr} {n : Nat} {gs : List Fb} {l : List Fc} (h : Lies w a n gs l) (hb : Below w.heap.size w w') : Lies w' a n gs l := ⟨h.row.on hb, h.len, h.light, h.eq⟩

set_option maxHeartbeats 4000000 in
set_option maxRecDepth 100000 in
theorem refDrop_any (a : Option Addr) (len cap : Nat) (fs : List Fb) (f : Fb) (w : World) (hrow : RowF w a fs) (hf : f.In w) (hl : len ≤ fs.length) (hl' : fs.length ≤ len) (h1k : len ≤ 400) (hL : ∀ f ∈ fs, f.Light) :
    Calls Try.prog 23 #[.slice a len cap, .agg #[.string f.n, .slice f.a f.len f.cap]] w fun e w' => ∃ (q : Option Addr) (n c : Nat) (gs : List Fb), e = .returned (.slice q n c) ∧ Lies w' q n gs (dropL (fs.map Fb.l) f.l) ∧ Below w.heap.size w w' := by
  obtain ⟨i0, hi, hz0, hz1, hz2⟩ := info_parts infoF
  have hba : Below w.heap.size w (w.alloc (bxO f)) := (Below.refl _ _).alloc (Nat.le_refl _) _
  obtain ⟨k0, k1⟩ := pair_of (heap_alloc_new w (bxO f))
  have hs0 : (w.alloc (bxO f)).heap.size = w.heap.size + 1 := by simp
  have HS0 := hide hs0
  clear hs0
  go_enter Try.func23, Try.ntmps23
  go_wp2_with fail
  go_loopw [5, 6] (fun v i wr => ∃ (k n cq : Nat) (aq : Option Addr) (gs : List Fb), k ≤ len ∧ i = .int .i64 k ∧ v = .slice aq n cq ∧ n ≤ k ∧ wr.ownsRow (w.heap.size + 1) 25 2 (.slice aq n cq) n (flatF gs) ∧ Hid (n = gs.length) ∧ Hid (gs.map Fb.l = dropL ((fs.take k).map Fb.l) f.l) ∧ Hid (∀ g ∈ gs, g ∈ fs) ∧ Below (w.heap.size + 1) (w.alloc (bxO f)) wr) (fun _ i _ => len - (intOf i).toNat)
  case atStart => exact ⟨0, 0, 0, none, [], Nat.zero_le _, rfl, rfl, Nat.le_refl _, World.ownsRow_nil _ _ _ _, hide rfl, hide rfl, hide (by simp), Below.refl _ _⟩
  case round =>
    obtain ⟨k, n, cq, aq, gs, hk, rfl, rfl, hnk, hown, HN, HA, HM, hbw⟩ := hrel
    have hbw0 : Below (w.alloc (bxO f)).heap.size (w.alloc (bxO f)) wr := by rw [unhide HS0]; exact hbw
    have hww := bt hba hbw0
    have hsz : w.heap.size + 1 ≤ wr.heap.size := by have := hbw0.size; rw [unhide HS0] at this; exact this
    by_cases hlt : k < len
    · obtain ⟨b, o, ha, hbl, c0, c1, hin⟩ := (hrow.on hww).up (show k < fs.length by omega)
      subst ha
      have m0 := cell_on hbw0 k0
      have m1 := cell_on hbw0 k1
      have lf := (hL fs[k] (List.getElem_mem (by omega))).len
      have hfin := hf.on hww
      have HE : Hid ((fs.take (k + 1)).map Fb.l = (fs.take k).map Fb.l ++ [fs[k].l]) := hide (take_l fs k (by omega))
      have xm : fs[k] ∈ fs := List.getElem_mem (by omega)
      have XM := hide xm
      clear xm
      have q0 := cell_regrown c0
      have q1 := cell_regrown c1
      have q2 := cell_regrown m0
      have q3 := cell_regrown m1
      by_cases hz : fs[k].l = f.l
      · have HA' : Hid (gs.map Fb.l = dropL ((fs.take (k + 1)).map Fb.l) f.l) := by
          refine hide ?_
          rw [unhide HE, unhide HA]
          simp [dropL, hz]
        have hzq : Hid (decide (fs[k].l = f.l) = true) := hide (by simp [hz])
        clear hz
        generalize fs[k] = x at c0 c1 hzq hin lf XM q0 q1 HE
        have lf' : x.len ≤ 1000 := by omega
        have F1 := cls (wr := wr) (fun W hb => keepFact_b x f true W (hin.on hb) (hfin.on hb) lf' hzq)
        clear hzq lf'
        go_wp2_with fail
        refine wp_region_quiet_below (by kernel_rfl) (by kernel_rfl) ?_
        repeat (go_big_quiet_step (with_reducible exact F1 _ _))
        refine wpQuiet_nil ?_
        intro _ hw'
        obtain ⟨⟨dq, osq⟩, hw''⟩ := hw'
        subst hw''
        have hb2 := below_regrown wr dq osq
        have hown2 := own_on hown hb2
        have hbw2 := hbw.trans (hb2.mono hsz)
        clear F1 q0 q1 q2 q3 c0 c1 m0 m1 hown hin hfin
        generalize Sort.grow (redrawn wr dq) osq = w2 at hown2 hbw2 ⊢
        go_wp2_with fail
        go_roundw
        case rel => exact ⟨k + 1, n, cq, aq, gs, by omega, by go_num, rfl, by omega, hown2, HN, HA', HM, hbw2⟩
        case measure => simp [intOf]; omega
      · have HA' : Hid ((gs ++ [fs[k]]).map Fb.l = dropL ((fs.take (k + 1)).map Fb.l) f.l) := by
          refine hide ?_
          rw [unhide HE, List.map_append, unhide HA]
          simp [dropL, hz]
        have HM' : Hid (∀ g ∈ gs ++ [fs[k]], g ∈ fs) := by
          refine hide (fun g hg => ?_)
          rcases List.mem_append.1 hg with hg | hg
          · exact unhide HM g hg
          · rw [List.mem_singleton.1 hg]; exact unhide XM
        have hzq : Hid (decide (fs[k].l = f.l) = false) := hide (by simp [hz])
        clear hz XM
        generalize fs[k] = x at c0 c1 hzq hin lf q0 q1 HE HA' HM'
        have lf' : x.len ≤ 1000 := by omega
        have F1 := cls (wr := wr) (fun W hb => keepFact_b x f false W (hin.on hb) (hfin.on hb) lf' hzq)
        clear hzq lf'
        go_wp2_with fail
        refine wp_region_quiet_below (by kernel_rfl) (by kernel_rfl) ?_
        repeat (go_big_quiet_step (with_reducible exact F1 _ _))
        refine wpQuiet_nil ?_
        intro _ hw'
        obtain ⟨⟨dq, osq⟩, hw''⟩ := hw'
        subst hw''
        have hb2 := below_regrown wr dq osq
        have hown2 := own_on hown hb2
        have hbw2 := hbw.trans (hb2.mono hsz)
        have d0 := cell_on hb2 c0
        have d1 := cell_on hb2 c1
        clear F1 q0 q1 q2 q3 c0 c1 m0 m1 hown hin hfin
        generalize Sort.grow (redrawn wr dq) osq = w2 at hown2 hbw2 d0 d1 hb2 ⊢
        have hbl2 := cell_lt d0
        have hsz2 : w.heap.size + 1 ≤ w2.heap.size := by have := hb2.size; omega
        clear hb2
        obtain ⟨M1, B1⟩ := app_facts (show n ≤ 400 by omega)
        have hbs : w.heap.size + 1 ≤ (w2.alloc (.cells #[.string x.n, .slice x.a x.len x.cap] 25)).heap.size := by simp; omega
        have HBS := hide hbs
        clear hbs
        go_wp2_with (at_builtin; refine wpList_append_own_wide _ rfl _ _ 22 rfl (w.heap.size + 1) 25 i0 (.agg #[.string ⟨#[]⟩, .slice none 0 0]) 2 40 Try.underlying22 hi hz0 hz1 hz2 rfl (by decide) _ n (flatF gs) rfl (hown2.alloc _) ⟨w2.heap.size, 0, none⟩ 1 1 [.string x.n, .slice x.a x.len x.cap] rfl rfl (cells_new [.string x.n, .slice x.a x.len x.cap] 25 rfl) (one2 x) (unhide M1) (unhide B1) (unhide HBS) ?_)
        intro v' w3 hown3 hgrow hnil3
        obtain ⟨aq3, cq3, rfl⟩ := own_slice hown3
        have hbw3 := (hbw2.alloc hsz2 (.cells #[.string x.n, .slice x.a x.len x.cap] 25)).grown hgrow (by simp; omega) (fun m hm => (hown2.lt m hm).1)
        have hown4 : w3.ownsRow (w.heap.size + 1) 25 2 (.slice aq3 (n + 1) cq3) (n + 1) (flatF (gs ++ [x])) := by rw [flatF_app]; exact hown3
        clear hgrow hnil3 hown2 hbw2 hown3 d0 d1
        go_wp2_with fail
        go_roundw
        case rel => exact ⟨k + 1, n + 1, cq3, aq3, gs ++ [x], by omega, by go_num, rfl, by omega, hown4, hide (by rw [List.length_append, ← unhide HN]; rfl), HA', HM', hbw3⟩
        case measure => simp [intOf]; omega
    · have HT : Hid (Lies wr aq n gs (dropL (fs.map Fb.l) f.l)) := by
        refine hide ⟨rowF_own hown (unhide HN) (fun g hg => (hrow.1 g (unhide HM g hg)).on hww), unhide HN, fun g hg => hL g (unhide HM g hg), ?_⟩
        have := unhide HA
        rwa [List.take_of_length_le (by omega)] at this
      go_wp2_with fail
      go_ret
      exact ⟨aq, n, cq, gs, rfl, unhide HT, hww⟩
end Go.Proofs.Ytmnonjacomabbaa

/- What the document's own Put and Of answer. -/
import Derived.Test.YtmnonjacomabbaaSetQ
namespace Go.Proofs.Ytmnonjacomabbaa
open Go.RowKit
open V

/-- Where the loop of Put is: gs is laid; the fact is in, or not yet. -/
def PutAt (f : Fb) (fs gs : List Fb) (k : Nat) : Bool → Prop
  | true => insF f fs = gs ++ fs.drop k
  | false => gs = fs.take k ∧ insF f fs = fs.take k ++ insF f (fs.drop k)
theorem putAt_in {f : Fb} {fs gs : List Fb} {k : Nat} (hk : k < fs.length) (h : PutAt f fs gs k true) : PutAt f fs (gs ++ [fs[k]]) (k + 1) true := by
  show insF f fs = _
  rw [show insF f fs = gs ++ fs.drop k from h, List.drop_eq_getElem_cons hk]
  simp
theorem putAt_out {f : Fb} {fs gs : List Fb} {k : Nat} (hk : k < fs.length) (h : PutAt f fs gs k false) (hz : ¬ cmpF f.l fs[k].l < 0) : PutAt f fs (gs ++ [fs[k]]) (k + 1) false := by
  obtain ⟨h1, h2⟩ := h
  refine ⟨?_, insF_step hk h2 hz⟩
  rw [h1, List.take_succ_eq_append_getElem hk]
theorem putAt_here {f : Fb} {fs gs : List Fb} {k : Nat} (hk : k < fs.length) (h : PutAt f fs gs k false) (hz : cmpF f.l fs[k].l < 0) : PutAt f fs ((gs ++ [f]) ++ [fs[k]]) (k + 1) true := by
  obtain ⟨h1, h2⟩ := h
  show insF f fs = _
  rw [insF_here hk h2 hz, h1]

theorem len_put_le' {l : List Fc} {x : Fc} : (putL cmpF l x).length ≤ l.length + 1 := by
  unfold putL
  split
  · omega
  · rw [len_ins]; omega

set_option maxHeartbeats 8000000 in
set_option maxRecDepth 100000 in
theorem refPut_any (a : Option Addr) (len cap : Nat) (fs : List Fb) (f : Fb) (w : World) (hrow : RowF w a fs) (hf : f.In w) (hl : len ≤ fs.length) (hl' : fs.length ≤ len) (h1k : len ≤ 300) (hL : ∀ f ∈ fs, f.Light) (lf : f.Light) :
    Calls Try.prog 22 #[.slice a len cap, .agg #[.string f.n, .slice f.a f.len f.cap]] w fun e w' => ∃ (q : Option Addr) (n c : Nat) (gs : List Fb), e = .returned (.slice q n c) ∧ Lies w' q n gs (putL cmpF (fs.map Fb.l) f.l) ∧ Below w.heap.size w w' := by
  obtain ⟨i0, hi, hz0, hz1, hz2⟩ := info_parts infoF
  have hba : Below w.heap.size w (w.alloc (bxO f)) := (Below.refl _ _).alloc (Nat.le_refl _) _
  obtain ⟨k0, k1⟩ := pair_of (heap_alloc_new w (bxO f))
  have hs0 : (w.alloc (bxO f)).heap.size = w.heap.size + 1 := by simp
  have HS0 := hide hs0
  clear hs0
  have hL1k : ∀ f ∈ fs, f.len ≤ 1000 := fun g hg => by have := (hL g hg).len; omega
  obtain ⟨q, hq⟩ : ∃ q, decide (f.l ∈ fs.map Fb.l) = q := ⟨_, rfl⟩
  have hh := refHas_any a len cap fs f q _ (hrow.on hba) (hf.on hba) hl hl' (by omega) hL1k (hide hq)
  go_enter Try.func22, Try.ntmps22
  go_wp2_with fail
  refine hh.mono ?_
  rintro e w1 ⟨rfl, hb1⟩
  have hw1 := bt hba hb1
  cases q with
  | true =>
    have HT : Hid (Lies w1 a len fs (putL cmpF (fs.map Fb.l) f.l)) := hide ⟨hrow.on hw1, by omega, hL, by rw [putL, if_pos (of_decide_eq_true hq)]⟩
    clear hh hq k0 k1
    go_wp2_with fail
    go_ret
    exact ⟨a, len, cap, fs, rfl, unhide HT, hw1⟩
  | false =>
  have HQ : Hid (putL cmpF (fs.map Fb.l) f.l = (insF f fs).map Fb.l) := hide (by rw [putL, if_neg (of_decide_eq_false hq), insF_l])
  have hb1' : Below (w.heap.size + 1) (w.alloc (bxO f)) w1 := by rw [← unhide HS0]; exact hb1
  clear hh hq hb1
  go_wp2_with fail
  go_loopw [5, 6, 7] (fun v vb i wr => ∃ (k n cq : Nat) (aq : Option Addr) (gs : List Fb) (inb : Bool), k ≤ len ∧ i = .int .i64 k ∧ vb = .bool inb ∧ v = .slice aq n cq ∧ n ≤ k + 1 ∧ wr.ownsRow (w.heap.size + 1) 25 2 (.slice aq n cq) n (flatF gs) ∧ Hid (n = gs.length) ∧ Hid (PutAt f fs gs k inb) ∧ Below (w.heap.size + 1) (w.alloc (bxO f)) wr) (fun _ _ i _ => len - (intOf i).toNat)
  case atStart => exact ⟨0, 0, 0, none, [], false, Nat.zero_le _, rfl, rfl, rfl, by omega, World.ownsRow_nil _ _ _ _, hide rfl, hide ⟨rfl, by simp⟩, hb1'⟩
  case round =>
    clear hb1' hw1
    obtain ⟨k, n, cq, aq, gs, inb, hk, rfl, rfl, rfl, hnk, hown, HN, HA, hbw⟩ := hrel
    have hbw0 : Below (w.alloc (bxO f)).heap.size (w.alloc (bxO f)) wr := by rw [unhide HS0]; exact hbw
    have hww := bt hba hbw0
    have hsz : w.heap.size + 1 ≤ wr.heap.size := by have := hbw0.size; rw [unhide HS0] at this; exact this
    have m0 := cell_on hbw0 k0
    have m1 := cell_on hbw0 k1
    by_cases hlt : k < len
    · obtain ⟨b, o, ha, hbl, c0, c1, hin⟩ := (hrow.on hww).up (show k < fs.length by omega)
      subst ha
      have lx := hL fs[k] (List.getElem_mem (by omega))
      have hfin := hf.on hww
      have i1 : (k : Int) < (len : Int) := by omega
      cases inb with
      | true =>
        have HA' := hide (putAt_in (show k < fs.length by omega) (unhide HA))
        generalize fs[k] = x at c0 c1 hin lx HA'
        clear HA hbw0
        go_wp2_with fail
        refine wp_region_quiet_below (by kernel_rfl) (by kernel_rfl) ?_
        repeat (go_big_quiet_step (fail))
        refine wpQuiet_nil ?_
        intro _ hw'
        obtain ⟨⟨dq, osq⟩, hw''⟩ := hw'
        subst hw''
        have hb2 := below_regrown wr dq osq
        have hown2 := own_on hown hb2
        have hbw2 := hbw.trans (hb2.mono hsz)
        have d0 := cell_on hb2 c0
        have d1 := cell_on hb2 c1
        have e0 := cell_on hb2 m0
        have e1 := cell_on hb2 m1
        generalize Sort.grow (redrawn wr dq) osq = w2 at hown2 hbw2 d0 d1 e0 e1 hb2 ⊢
        have hbl2 := cell_lt d0
        have hbe2 := cell_lt e0
        have hsz2 : w.heap.size + 1 ≤ w2.heap.size := by have := hb2.size; omega
        clear hb2 hown c0 c1 m0 m1
        clear e0 e1 hbe2
        obtain ⟨M3, B3⟩ := app_facts (show n ≤ 400 by omega)
        have HBS3 : Hid (w.heap.size + 1 ≤ (w2.alloc (.cells #[.string x.n, .slice x.a x.len x.cap] 25)).heap.size) := hide (by simp; omega)
        go_wp2_with (at_builtin; refine wpList_append_own_wide _ rfl _ _ 22 rfl (w.heap.size + 1) 25 i0 (.agg #[.string ⟨#[]⟩, .slice none 0 0]) 2 40 Try.underlying22 hi hz0 hz1 hz2 rfl (by decide) _ (n) (flatF (gs)) rfl (hown2.alloc _) ⟨w2.heap.size, 0, none⟩ 1 1 [.string x.n, .slice x.a x.len x.cap] rfl rfl (cells_new [.string x.n, .slice x.a x.len x.cap] 25 rfl) (one2 x) (unhide M3) (unhide B3) (unhide HBS3) ?_)
        intro v3 w3 hown3' hgrow3 hnil3
        obtain ⟨aq3, cq3, rfl⟩ := own_slice hown3'
        have hbw3 := (hbw2.alloc (by omega) (.cells #[.string x.n, .slice x.a x.len x.cap] 25)).grown hgrow3 (by simp; omega) (fun m hm => (hown2.lt m hm).1)
        have hown3 : w3.ownsRow (w.heap.size + 1) 25 2 (.slice aq3 (n + 1) cq3) (n + 1) (flatF ((gs) ++ [x])) := by rw [flatF_app]; exact hown3'
        have hsz3 : w.heap.size + 1 ≤ w3.heap.size := by have := hgrow3.size; simp at this; omega
        clear hgrow3 hnil3 hown3' M3 B3 HBS3
        clear d0 d1 hown2 hbw2
        go_wp2_with fail
        go_roundw
        case rel => exact ⟨k + 1, n + 1, cq3, aq3, gs ++ [x], true, by omega, by go_num, rfl, rfl, by omega, hown3, hide (by rw [List.length_append, ← unhide HN]; rfl), HA', hbw3⟩
        case measure => simp [intOf]; omega
      | false =>
        have hnk' : n ≤ k := by
          have h : gs = fs.take k := (unhide HA).1
          rw [unhide HN, h, List.length_take]
          omega
        obtain ⟨x0, hx0⟩ : ∃ x0, cmpF f.l fs[k].l = x0 := ⟨_, rfl⟩
        have HX := hide hx0
        have HCX : Hid (∀ W, Below w.heap.size w W → W.cell? ⟨b, o + k * 2, none⟩ = some (.string fs[k].n) ∧ W.cell? ⟨b, o + k * 2 + 1, none⟩ = some (.slice fs[k].a fs[k].len fs[k].cap)) := by
          refine hide (fun W hb => ?_)
          obtain ⟨b2, o2, e2, _, y0, y1, _⟩ := (hrow.on hb).up (show k < fs.length by omega)
          simp only [Option.some.injEq, Addr.mk.injEq, and_true] at e2
          obtain ⟨rfl, rfl⟩ := e2
          exact ⟨y0, y1⟩
        by_cases hz : x0 < 0
        · have HA' := hide (putAt_here (show k < fs.length by omega) (unhide HA) (by rw [hx0]; exact hz))
          clear hx0
          generalize fs[k] = x at c0 c1 hin lx HA' HX HCX
          have F1 := cls (wr := wr) (fun W hb => refFacts_x f x x0 W lf lx (hfin.on hb) (hin.on hb) HX)
          have q0 := cell_regrown c0
          have q1 := cell_regrown c1
          have q2 := cell_regrown m0
          have q3 := cell_regrown m1
          clear HA hbw0 HX
          go_wp2_with fail
          refine wp_region_quiet_below (by kernel_rfl) (by kernel_rfl) ?_
          repeat (go_big_quiet_step (with_reducible exact F1 _ _))
          refine wpQuiet_nil ?_
          intro _ hw'
          obtain ⟨⟨dq, osq⟩, hw''⟩ := hw'
          subst hw''
          have hb2 := below_regrown wr dq osq
          have hown2 := own_on hown hb2
          have hbw2 := hbw.trans (hb2.mono hsz)
          have d0 := cell_on hb2 c0
          have d1 := cell_on hb2 c1
          have e0 := cell_on hb2 m0
          have e1 := cell_on hb2 m1
          generalize Sort.grow (redrawn wr dq) osq = w2 at hown2 hbw2 d0 d1 e0 e1 hb2 ⊢
          have hbl2 := cell_lt d0
          have hbe2 := cell_lt e0
          have hsz2 : w.heap.size + 1 ≤ w2.heap.size := by have := hb2.size; omega
          clear hb2 hown c0 c1 m0 m1
          clear F1 q0 q1 q2 q3 hin hfin
          have gx := d0
          have gy := d1
          obtain ⟨M3, B3⟩ := app_facts (show n ≤ 400 by omega)
          have HBS3 : Hid (w.heap.size + 1 ≤ (w2.alloc (.cells #[.string f.n, .slice f.a f.len f.cap] 25)).heap.size) := hide (by simp; omega)
          go_wp2_with (at_builtin; refine wpList_append_own_wide _ rfl _ _ 22 rfl (w.heap.size + 1) 25 i0 (.agg #[.string ⟨#[]⟩, .slice none 0 0]) 2 40 Try.underlying22 hi hz0 hz1 hz2 rfl (by decide) _ (n) (flatF (gs)) rfl (hown2.alloc _) ⟨w2.heap.size, 0, none⟩ 1 1 [.string f.n, .slice f.a f.len f.cap] rfl rfl (cells_new [.string f.n, .slice f.a f.len f.cap] 25 rfl) (one2 f) (unhide M3) (unhide B3) (unhide HBS3) ?_)
          intro v3 w3 hown3' hgrow3 hnil3
          obtain ⟨aq3, cq3, rfl⟩ := own_slice hown3'
          have hbw3 := (hbw2.alloc (by omega) (.cells #[.string f.n, .slice f.a f.len f.cap] 25)).grown hgrow3 (by simp; omega) (fun m hm => (hown2.lt m hm).1)
          have hown3 : w3.ownsRow (w.heap.size + 1) 25 2 (.slice aq3 (n + 1) cq3) (n + 1) (flatF ((gs) ++ [f])) := by rw [flatF_app]; exact hown3'
          have hsz3 : w.heap.size + 1 ≤ w3.heap.size := by have := hgrow3.size; simp at this; omega
          clear hgrow3 hnil3 hown3' M3 B3 HBS3
          have hw3 : Below w.heap.size w w3 := hba.trans (hbw3.mono (by omega))
          obtain ⟨y0, y1⟩ := unhide HCX w3 hw3
          have hby := cell_lt y0
          clear gx gy d0 d1 e0 e1 hbl2 hbe2 hown2 hbw2 HCX hw3
          obtain ⟨M4, B4⟩ := app_facts (show n + 1 ≤ 400 by omega)
          have HBS4 : Hid (w.heap.size + 1 ≤ (w3.alloc (.cells #[.string x.n, .slice x.a x.len x.cap] 25)).heap.size) := hide (by simp; omega)
          go_wp2_with (at_builtin; refine wpList_append_own_wide _ rfl _ _ 22 rfl (w.heap.size + 1) 25 i0 (.agg #[.string ⟨#[]⟩, .slice none 0 0]) 2 40 Try.underlying22 hi hz0 hz1 hz2 rfl (by decide) _ (n + 1) (flatF (gs ++ [f])) rfl (hown3.alloc _) ⟨w3.heap.size, 0, none⟩ 1 1 [.string x.n, .slice x.a x.len x.cap] rfl rfl (cells_new [.string x.n, .slice x.a x.len x.cap] 25 rfl) (one2 x) (unhide M4) (unhide B4) (unhide HBS4) ?_)
          intro v4 w4 hown4' hgrow4 hnil4
          obtain ⟨aq4, cq4, rfl⟩ := own_slice hown4'
          have hbw4 := (hbw3.alloc (by omega) (.cells #[.string x.n, .slice x.a x.len x.cap] 25)).grown hgrow4 (by simp; omega) (fun m hm => (hown3.lt m hm).1)
          have hown4 : w4.ownsRow (w.heap.size + 1) 25 2 (.slice aq4 (n + 1 + 1) cq4) (n + 1 + 1) (flatF ((gs ++ [f]) ++ [x])) := by rw [flatF_app]; exact hown4'
          have hsz4 : w.heap.size + 1 ≤ w4.heap.size := by have := hgrow4.size; simp at this; omega
          clear hgrow4 hnil4 hown4' M4 B4 HBS4
          clear y0 y1 hown3 hbw3
          go_wp2_with fail
          go_roundw
          case rel => exact ⟨k + 1, n + 1 + 1, cq4, aq4, gs ++ [f] ++ [x], true, by omega, by go_num, rfl, rfl, by omega, hown4, hide (by rw [List.length_append, List.length_append, ← unhide HN]; rfl), HA', hbw4⟩
          case measure => simp [intOf]; omega
        · have HA' := hide (putAt_out (show k < fs.length by omega) (unhide HA) (by rw [hx0]; exact hz))
          have hz' : 0 ≤ x0 := by omega
          clear hx0
          generalize fs[k] = x at c0 c1 hin lx HA' HX HCX
          have F1 := cls (wr := wr) (fun W hb => refFacts_x f x x0 W lf lx (hfin.on hb) (hin.on hb) HX)
          have q0 := cell_regrown c0
          have q1 := cell_regrown c1
          have q2 := cell_regrown m0
          have q3 := cell_regrown m1
          clear HA hbw0 HX HCX
          go_wp2_with fail
          refine wp_region_quiet_below (by kernel_rfl) (by kernel_rfl) ?_
          repeat (go_big_quiet_step (with_reducible exact F1 _ _))
          refine wpQuiet_nil ?_
          intro _ hw'
          obtain ⟨⟨dq, osq⟩, hw''⟩ := hw'
          subst hw''
          have hb2 := below_regrown wr dq osq
          have hown2 := own_on hown hb2
          have hbw2 := hbw.trans (hb2.mono hsz)
          have d0 := cell_on hb2 c0
          have d1 := cell_on hb2 c1
          have e0 := cell_on hb2 m0
          have e1 := cell_on hb2 m1
          generalize Sort.grow (redrawn wr dq) osq = w2 at hown2 hbw2 d0 d1 e0 e1 hb2 ⊢
          have hbl2 := cell_lt d0
          have hbe2 := cell_lt e0
          have hsz2 : w.heap.size + 1 ≤ w2.heap.size := by have := hb2.size; omega
          clear hb2 hown c0 c1 m0 m1
          clear F1 q0 q1 q2 q3 hin hfin e0 e1 hbe2
          obtain ⟨M3, B3⟩ := app_facts (show n ≤ 400 by omega)
          have HBS3 : Hid (w.heap.size + 1 ≤ (w2.alloc (.cells #[.string x.n, .slice x.a x.len x.cap] 25)).heap.size) := hide (by simp; omega)
          go_wp2_with (at_builtin; refine wpList_append_own_wide _ rfl _ _ 22 rfl (w.heap.size + 1) 25 i0 (.agg #[.string ⟨#[]⟩, .slice none 0 0]) 2 40 Try.underlying22 hi hz0 hz1 hz2 rfl (by decide) _ (n) (flatF (gs)) rfl (hown2.alloc _) ⟨w2.heap.size, 0, none⟩ 1 1 [.string x.n, .slice x.a x.len x.cap] rfl rfl (cells_new [.string x.n, .slice x.a x.len x.cap] 25 rfl) (one2 x) (unhide M3) (unhide B3) (unhide HBS3) ?_)
          intro v3 w3 hown3' hgrow3 hnil3
          obtain ⟨aq3, cq3, rfl⟩ := own_slice hown3'
          have hbw3 := (hbw2.alloc (by omega) (.cells #[.string x.n, .slice x.a x.len x.cap] 25)).grown hgrow3 (by simp; omega) (fun m hm => (hown2.lt m hm).1)
          have hown3 : w3.ownsRow (w.heap.size + 1) 25 2 (.slice aq3 (n + 1) cq3) (n + 1) (flatF ((gs) ++ [x])) := by rw [flatF_app]; exact hown3'
          have hsz3 : w.heap.size + 1 ≤ w3.heap.size := by have := hgrow3.size; simp at this; omega
          clear hgrow3 hnil3 hown3' M3 B3 HBS3
          clear d0 d1 hown2 hbw2
          go_wp2_with fail
          go_roundw
          case rel => exact ⟨k + 1, n + 1, cq3, aq3, gs ++ [x], false, by omega, by go_num, rfl, rfl, by omega, hown3, hide (by rw [List.length_append, ← unhide HN]; rfl), HA', hbw3⟩
          case measure => simp [intOf]; omega
    · have hkl : fs.length ≤ k := by omega
      have HF : Hid (∀ (W : World) (q : Option Addr) (m c : Nat) (hs : List Fb), W.ownsRow (w.heap.size + 1) 25 2 (.slice q m c) m (flatF hs) → m = hs.length → hs = insF f fs → Below w.heap.size w W → Lies W q m hs (putL cmpF (fs.map Fb.l) f.l)) := by
        refine hide (fun W q m c hs ho hm he hb => ⟨rowF_own ho hm (fun g hg => ?_), hm, fun g hg => ?_, by rw [unhide HQ, he]⟩)
        · rw [he] at hg
          rcases insF_mem f fs g hg with rfl | hg
          · exact hf.on hb
          · exact (hrow.1 g hg).on hb
        · rw [he] at hg
          rcases insF_mem f fs g hg with rfl | hg
          · exact lf
          · exact hL g hg
      cases inb with
      | true =>
        have he : gs = insF f fs := by
          have h : insF f fs = gs ++ fs.drop k := unhide HA
          rw [h, List.drop_eq_nil_of_le hkl, List.append_nil]
        have HT := hide (unhide HF wr aq n cq gs hown (unhide HN) he hww)
        clear he HF m0 m1
        go_wp2_with fail
        go_ret
        exact ⟨aq, n, cq, gs, rfl, unhide HT, hww⟩
      | false =>
        have he : gs ++ [f] = insF f fs := by
          obtain ⟨h1, h2⟩ := unhide HA
          rw [h2, h1, List.drop_eq_nil_of_le hkl]
          rfl
        have HE := hide he
        have hbe := cell_lt m0
        clear he
        obtain ⟨M3, B3⟩ := app_facts (show n ≤ 400 by omega)
        have HBS3 : Hid (w.heap.size + 1 ≤ (wr.alloc (.cells #[.string f.n, .slice f.a f.len f.cap] 25)).heap.size) := hide (by simp; omega)
        go_wp2_with (at_builtin; refine wpList_append_own_wide _ rfl _ _ 22 rfl (w.heap.size + 1) 25 i0 (.agg #[.string ⟨#[]⟩, .slice none 0 0]) 2 40 Try.underlying22 hi hz0 hz1 hz2 rfl (by decide) _ (n) (flatF (gs)) rfl (hown.alloc _) ⟨wr.heap.size, 0, none⟩ 1 1 [.string f.n, .slice f.a f.len f.cap] rfl rfl (cells_new [.string f.n, .slice f.a f.len f.cap] 25 rfl) (one2 f) (unhide M3) (unhide B3) (unhide HBS3) ?_)
        intro v3 w3 hown3' hgrow3 hnil3
        obtain ⟨aq3, cq3, rfl⟩ := own_slice hown3'
        have hbw3 := (hbw.alloc (by omega) (.cells #[.string f.n, .slice f.a f.len f.cap] 25)).grown hgrow3 (by simp; omega) (fun m hm => (hown.lt m hm).1)
        have hown3 : w3.ownsRow (w.heap.size + 1) 25 2 (.slice aq3 (n + 1) cq3) (n + 1) (flatF ((gs) ++ [f])) := by rw [flatF_app]; exact hown3'
        have hsz3 : w.heap.size + 1 ≤ w3.heap.size := by have := hgrow3.size; simp at this; omega
        clear hgrow3 hnil3 hown3' M3 B3 HBS3
        have hw3 : Below w.heap.size w w3 := hba.trans (hbw3.mono (by omega))
        have HT := hide (unhide HF w3 aq3 (n + 1) cq3 (gs ++ [f]) hown3 (by rw [List.length_append, ← unhide HN]; rfl) (unhide HE) hw3)
        clear HF HE m0 m1 hown hown3
        go_wp2_with fail
        go_ret
        exact ⟨aq3, n + 1, cq3, gs ++ [f], rfl, unhide HT, hw3⟩

set_option maxHeartbeats 4000000 in
theorem refOf_any (a : Option Addr) (len cap : Nat) (fs : List Fb) (w : World) (hrow : RowF w a fs) (hl : len ≤ fs.length) (hl' : fs.length ≤ len) (h1k : len ≤ 200) (hL : ∀ f ∈ fs, f.Light) :
    Calls Try.prog 19 #[.slice a len cap] w fun e w' => ∃ (q : Option Addr) (n c : Nat) (gs : List Fb), e = .returned (.slice q n c) ∧ Lies w' q n gs (ofL cmpF (fs.map Fb.l)) ∧ Below w.heap.size w w' := by
  go_enter Try.func19, Try.ntmps19
  go_wp2_with fail
  go_loopw [3, 4] (fun v i wr => ∃ (k n cq : Nat) (aq : Option Addr) (gs : List Fb), k ≤ len ∧ i = .int .i64 k ∧ v = .slice aq n cq ∧ n ≤ k ∧ Lies wr aq n gs (ofL cmpF ((fs.take k).map Fb.l)) ∧ Below w.heap.size w wr) (fun _ i _ => len - (intOf i).toNat)
  case atStart => exact ⟨0, 0, 0, none, [], Nat.zero_le _, rfl, rfl, Nat.le_refl _, ⟨⟨by simp, Or.inl rfl⟩, rfl, by simp, rfl⟩, Below.refl _ _⟩
  case round =>
    obtain ⟨k, n, cq, aq, gs, hk, rfl, rfl, hnk, hT, hbw⟩ := hrel
    by_cases hlt : k < len
    · obtain ⟨b, o, ha, hbl, c0, c1, hin⟩ := (hrow.on hbw).up (show k < fs.length by omega)
      subst ha
      have lx := hL fs[k] (List.getElem_mem (by omega))
      have HE : Hid (ofL cmpF ((fs.take (k + 1)).map Fb.l) = putL cmpF (ofL cmpF ((fs.take k).map Fb.l)) fs[k].l) := by
        refine hide ?_
        rw [take_l fs k (by omega)]
        simp [ofL]
      generalize fs[k] = x at c0 c1 hin lx HE
      have hp := refPut_any aq n cq gs x wr hT.row hin (by rw [hT.len]; omega) (by rw [← hT.len]; omega) (by omega) hT.light lx
      rw [hT.eq, ← unhide HE] at hp
      have hlen : n = (ofL cmpF ((fs.take k).map Fb.l)).length := by rw [← hT.eq, List.length_map]; exact hT.len
      have HLE : Hid ((ofL cmpF ((fs.take (k + 1)).map Fb.l)).length ≤ n + 1) := by
        refine hide ?_
        rw [unhide HE, hlen]
        exact len_put_le'
      clear hT hlen HE
      go_wp2_with fail
      refine hp.mono ?_
      rintro e w2 ⟨q, m, c, hs, rfl, hT2, hb2⟩
      have hbw2 := bt hbw hb2
      have hm : m ≤ k + 1 := by
        have h1 : m = (ofL cmpF ((fs.take (k + 1)).map Fb.l)).length := by rw [← hT2.eq, List.length_map]; exact hT2.len
        have := unhide HLE
        omega
      clear hp c0 c1 HLE
      go_wp2_with fail
      go_roundw
      case rel => exact ⟨k + 1, m, c, q, hs, by omega, by go_num, rfl, hm, hT2, hbw2⟩
      case measure => simp [intOf]; omega
    · rw [List.take_of_length_le (by omega)] at hT
      go_wp2_with fail
      go_ret
      exact ⟨aq, n, cq, gs, rfl, hT, hbw⟩
end Go.Proofs.Ytmnonjacomabbaa

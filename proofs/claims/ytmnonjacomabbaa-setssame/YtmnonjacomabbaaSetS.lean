/- The walk of constablelaw04.SetsSame: it answers true, whatever the list and the number. -/
import Derived.Test.YtmnonjacomabbaaSetT
namespace Go.Proofs.Ytmnonjacomabbaa
open Go.RowKit
open V

/-- append at a step of a region that draws its order. -/
theorem step_append_wide {P : Program} {w : World} {ops : Array Oper} {o : Oper} {a : Act} {K : Act → World → Prop} {Q : Exit → Act → World → Prop} {E : Prop} (hgd : o.guard = none) (s x : Operand) (t : TypeId)
    (ho : o.op = .call { callee := .builtin .append, args := #[s, x], argTypes := #[t, t] })
    (base : Nat) (e : TypeId) (i : TypeInfo) (z : Value) (size bytes : Nat) (ht : P.underlying t = some (.slice e)) (hi : P.info? e = some i) (hz : i.zero = some z)
    (hsize : i.size = size) (hby : i.bytes = bytes) (hzs : z.cells.size = size) (hsz : 0 < size)
    (v : Value) (n : Nat) (xs : List Value) (hs : a.eval s = v) (hown : w.ownsRow base e size v n xs)
    (ad : Addr) (m c : Nat) (news : List Value) (hx : a.eval x = .slice (some ad) m c) (hl : news.length = m * size) (hnews : ∀ j u, news[j]? = some u → w.cell? (ad.add j) = some u) (h1 : ∀ u ∈ news, u.oneCell' = true)
    (h63 : n + m ≤ maxLen) (hbytes : ((n + m) + (n + m) / 4 + 192) * bytes ≤ 281474976710656) (hbase : base ≤ w.heap.size)
    (h : ∀ v' w', w'.ownsRow base e size v' (n + m) (xs ++ news) → w.grownBy w' v.ownBlock → (v' = .slice none 0 0 ↔ v = .slice none 0 0 ∧ m = 0) → K (a.put o.dst v') w') :
    if Region.wanted o (yielded ops a.tmps) = true then Oper.wp P o a w K Q else E := by
  have hw : Region.wanted o (yielded ops a.tmps) = true := by simp [Region.wanted, hgd]
  rw [if_pos hw]
  exact wp_append_own_wide w s x t ho base e i z size bytes ht hi hz hsize hby hzs hsz v n xs hs hown ad m c news hx hl hnews h1 h63 hbytes hbase h

theorem own_nil {w : World} {B : Nat} {e : TypeId} {s : Nat} {a : Option Addr} {n cap : Nat} {xs : List Value} (h : w.ownsRow B e s (.slice a n cap) n xs) : a = none → cap = 0 := by
  intro ha
  rcases h.2 with ⟨hv, _⟩ | ⟨g, cap', cur, hv, _⟩
  · simp at hv; exact hv.2.2
  · simp [ha] at hv
theorem turn_num (x : Int) (ll : Nat) (h : 0 < ll) (hl : ll ≤ 1000) : ∃ r : Nat, r < ll ∧ wrap64 ((IntKind.u64.wrap x).tmod (ll : Int)) = (r : Int) := by
  have h0 : 0 ≤ IntKind.u64.wrap x := by simp [IntKind.wrap, IntKind.bits, IntKind.signed]; omega
  have h1 : 0 ≤ (IntKind.u64.wrap x).tmod (ll : Int) := Int.tmod_nonneg _ h0
  have h2 : (IntKind.u64.wrap x).tmod (ll : Int) < (ll : Int) := Int.tmod_lt_of_pos _ (by omega)
  generalize (IntKind.u64.wrap x).tmod (ll : Int) = y at h1 h2
  refine ⟨y.toNat, by omega, ?_⟩
  unfold wrap64
  omega
theorem rows_at {w W : World} {b o : Nat} {xs : List Fb} (hx : RowF w (some ⟨b, o, none⟩) xs) (hb : Below w.heap.size w W) (r : Nat) : (∀ j u, (flatF (xs.drop r))[j]? = some u → W.cell? ((⟨b, o + r * 2, none⟩ : Addr).add j) = some u) ∧ (∀ j u, (flatF (xs.take r))[j]? = some u → W.cell? ((⟨b, o, none⟩ : Addr).add j) = some u) := by
  have h := hx.on hb
  have one : ∀ (ys : List Fb) (o' : Nat), RowF W (some ⟨b, o', none⟩) ys → ∀ j u, (flatF ys)[j]? = some u → W.cell? ((⟨b, o', none⟩ : Addr).add j) = some u := by
    intro ys o' hy j u hu
    rw [WideShapes.add_plain]
    rcases hy.2 with e | ⟨b2, o2, e, _, hc⟩
    · subst e; simp [flatF] at hu
    · simp only [Option.some.injEq, Addr.mk.injEq, and_true] at e
      obtain ⟨rfl, rfl⟩ := e
      exact flatF_cells ys hc j u hu
  exact ⟨one _ _ (rowF_drop h r), one _ _ (rowF_take h r)⟩
theorem turn_of {xs : List Fb} (r : Nat) : ofL cmpF ((xs.drop r ++ xs.take r).map Fb.l) = ofL cmpF (xs.map Fb.l) := by
  refine of_same ord_fact (fun x => ?_)
  rw [List.map_append, List.mem_append, Or.comm, ← List.mem_append, ← List.map_append, List.take_append_drop]
theorem turn_all {xs : List Fb} (r : Nat) (h : (xs.map Fb.l).all rightF = true) : ((xs.drop r ++ xs.take r).map Fb.l).all rightF = true := by
  rw [List.all_eq_true] at h ⊢
  intro x hx
  rw [List.map_append, List.mem_append] at hx
  rcases hx with hx | hx
  · obtain ⟨f, hf, rfl⟩ := List.mem_map.1 hx
    exact h _ (List.mem_map.2 ⟨f, List.mem_of_mem_drop hf, rfl⟩)
  · obtain ⟨f, hf, rfl⟩ := List.mem_map.1 hx
    exact h _ (List.mem_map.2 ⟨f, List.mem_of_mem_take hf, rfl⟩)
theorem below_lit (w : World) : Below w.heap.size w (w.drew.alloc (.cells #[] 25)) := (Below.refl w.heap.size w).drew.alloc (Nat.le_refl _) _
theorem own_lit (w : World) : (w.drew.alloc (.cells #[] 25)).ownsRow w.heap.size 25 2 (.slice (some ⟨w.heap.size, 0, none⟩) 0 0) 0 [] := World.ownsRow_lit (base := w.heap.size) w.drew #[] 0 (Nat.le_refl _) (by unfold maxLen; omega) rfl

theorem turn_facts {ll r : Nat} {xs : List Fb} (hr : r < ll) (hl : ll ≤ 60) (hn1 : ll ≤ xs.length) (hn2 : xs.length ≤ ll) : Hid (ll - r + r = ll) ∧ Hid ((flatF (xs.drop r)).length = (ll - r) * 2) ∧ Hid ((flatF (xs.take r)).length = r * 2) ∧ Hid (((0 + (ll - r)) + (0 + (ll - r)) / 4 + 192) * 40 ≤ 281474976710656) ∧ Hid (((ll - r + r) + (ll - r + r) / 4 + 192) * 40 ≤ 281474976710656) ∧ Hid (0 + (ll - r) ≤ maxLen) ∧ Hid (ll - r + r ≤ maxLen) := by
  refine ⟨hide (by omega), hide ?_, hide ?_, hide (by omega), hide (by omega), hide (by unfold maxLen; omega), hide (by unfold maxLen; omega)⟩
  · rw [flatF_len, List.length_drop]; omega
  · rw [flatF_len, List.length_take]; omega

theorem mem_step {xs : List Fb} {j : Nat} (hj : j < xs.length) {L : List Fc} (h : ∀ y, y ∈ L ↔ y ∈ (xs.drop (j + 1)).map Fb.l) : ∀ y, y ∈ putL cmpF L xs[j].l ↔ y ∈ (xs.drop j).map Fb.l := by
  intro y
  rw [mem_put, h y, List.drop_eq_getElem_cons hj, List.map_cons, List.mem_cons]

set_option maxHeartbeats 8000000 in
set_option maxRecDepth 100000 in
theorem same_law (al : Option Addr) (ll cl : Nat) (xs : List Fb) (by0 : Int) (w : World) (hx : RowF w al xs) (hlx : ll = xs.length) (nx : al = none → cl = 0) (hcap : ll ≤ cl) :
    Calls Try.prog 4 #[.slice al ll cl, .int .i64 by0] w fun e w' => e = .returned (.bool true) ∧ Below w.heap.size w w' := by
  have hn1 : ll ≤ xs.length := by omega
  have hn2 : xs.length ≤ ll := by omega
  have hm1 := many_any al ll cl xs _ hx hn1 hn2
  have HLX := hide hlx
  have NX := hide nx
  clear hlx nx
  go_enter Try.func4, Try.ntmps4
  go_wp2_with fail
  refine hm1.mono ?_
  rintro e w1 ⟨rfl | ⟨rfl, hl60, hLx⟩, hb1⟩
  · clear hm1
    go_wp2_with fail
    go_ret
    exact ⟨rfl, hb1⟩
  clear hm1
  by_cases h0 : ll = 0
  · have d0 : ((ll : Int) == 0) = true := by simp [h0]
    clear h0
    go_wp2_with fail
    go_ret
    exact ⟨rfl, hb1⟩
  have d0 : ((ll : Int) == 0) = false := by simp [h0]
  go_wp2_with fail
  cases hal : (xs.map Fb.l).all rightF with
  | false =>
    refine (of_bad al ll cl xs w1 (hx.on hb1) (unhide HLX) (by omega) hLx (hide hal)).mono ?_
    rintro e w2 ⟨rfl, hb2⟩
    have hw2 := bt hb1 hb2
    clear hal d0
    go_wp2_with fail
    refine (wakes_any w2).mono ?_
    rintro e w3 ⟨rfl, hb3⟩
    have hw3 := bt hw2 hb3
    go_wp2_with fail
    go_ret
    exact ⟨rfl, hw3⟩
  | true =>
    refine (of_ok al ll cl xs w1 (hx.on hb1) (unhide HLX) (by omega) hLx (unhide NX) (hide hal)).mono ?_
    rintro e w2 ⟨a, n, c, gs, rfl, hT, hb2⟩
    have hw2 := bt hb1 hb2
    have HAL := hide hal
    have HT := hide hT
    have hxi := hx.on hw2
    rcases hxi.2 with h | ⟨b, o, ha, hbl, hc⟩
    · rw [h] at hn1; simp at hn1; omega
    subst ha
    clear hal hT d0 hb1 hb2
    go_wp2_with fail
    obtain ⟨r, hr, he⟩ := turn_num by0 ll (by omega) (by omega)
    rw [he]
    clear he
    have i1 : (r : Int) ≤ (ll : Int) := by omega
    have i2 : (0 : Int) ≤ (r : Int) := by omega
    have i3 : (r : Int) ≤ (cl : Int) := by omega
    have i4 : ¬ (cl = r) := by omega
    obtain ⟨HSUM, LD, LT, B1, B2, M1, M2⟩ := turn_facts hr hl60 hn1 hn2
    have NR : Hid (∀ W, Below w2.heap.size w2 W → (∀ j u, (flatF (xs.drop r))[j]? = some u → W.cell? ((⟨b, o + r * 2, none⟩ : Addr).add j) = some u) ∧ (∀ j u, (flatF (xs.take r))[j]? = some u → W.cell? ((⟨b, o, none⟩ : Addr).add j) = some u)) := hide (fun W hb => rows_at hxi hb r)
    have HC : Hid (∀ (w4 : World) (vb : Option Addr) (vd : Nat), w4.ownsRow w2.heap.size 25 2 (.slice vb ll vd) ll (flatF (xs.drop r) ++ flatF (xs.take r)) → Below w2.heap.size w2 w4 → Calls Try.prog 11 #[.slice vb ll vd] w4 fun e w' => ∃ (a' : Option Addr) (n c : Nat) (gs' : List Fb), e = .returned (.tuple #[.slice a' n c, .int .i64 0]) ∧ Told w4.heap.size w' a' n c gs' (ofL cmpF (xs.map Fb.l)) ∧ Below w4.heap.size w4 w') := by
      refine hide (fun w4 vb vd hown hb => ?_)
      rw [← flatF_app] at hown
      have hmem : ∀ f ∈ xs.drop r ++ xs.take r, f ∈ xs := by
        intro f hf
        rcases List.mem_append.1 hf with hf | hf
        · exact List.mem_of_mem_drop hf
        · exact List.mem_of_mem_take hf
      have hlen : ll = (xs.drop r ++ xs.take r).length := by simp; omega
      have := of_ok vb ll vd (xs.drop r ++ xs.take r) w4 (rowF_own hown hlen (fun f hf => (hxi.1 f (hmem f hf)).on hb)) hlen (by omega) (fun f hf => hLx f (hmem f hf)) (own_nil hown) (hide (turn_all r (unhide HAL)))
      rw [turn_of] at this
      exact this
    obtain ⟨i0, hi, hz0, hz1, hz2⟩ := info_parts infoF
    clear hc hbl h0
    go_region_held3 (fun _ => True) (trivial) (first
      | (refine step_append_wide (by rfl) _ _ 22 (by rfl) w2.heap.size 25 i0 (.agg #[.string ⟨#[]⟩, .slice none 0 0]) 2 40 Try.underlying22 hi hz0 hz1 hz2 (by rfl) (by decide) (.slice (some ⟨w2.heap.size, 0, none⟩) 0 0) 0 [] (by rfl) (own_lit w2) ⟨b, o + r * 2, none⟩ (ll - r) (cl - r) (flatF (xs.drop r)) (by rfl) (unhide LD) (unhide NR _ (below_lit w2)).1 (flatF_oneCell _) (unhide M1) (unhide B1) (below_lit w2).size ?_; intro v1 w3 hown1 hgrow1 hnil1; (simp only [Nat.zero_add, List.nil_append] at hown1); obtain ⟨va, vc, rfl⟩ := own_slice hown1; have hb3 := (below_lit w2).grown hgrow1 (below_lit w2).size (fun m hm => ((own_lit w2).lt m hm).1); clear hgrow1 hnil1)
      | (refine step_append_wide (by rfl) _ _ 22 (by rfl) w2.heap.size 25 i0 (.agg #[.string ⟨#[]⟩, .slice none 0 0]) 2 40 Try.underlying22 hi hz0 hz1 hz2 (by rfl) (by decide) (.slice va (ll - r) vc) (ll - r) (flatF (xs.drop r)) (by rfl) hown1 ⟨b, o, none⟩ r cl (flatF (xs.take r)) (by rfl) (unhide LT) (unhide NR _ hb3).2 (flatF_oneCell _) (unhide M2) (unhide B2) hb3.size ?_; intro v2 w4 hown2 hgrow2 hnil2; (rw [unhide HSUM] at hown2); obtain ⟨vb, vd, rfl⟩ := own_slice hown2; have hb4 := hb3.grown hgrow2 hb3.size (fun m hm => (hown1.lt m hm).1); clear hgrow2 hnil2)
      | (go_at_call 11; refine (unhide HC _ _ _ hown2 hb4).mono ?_; rintro e w5 ⟨a2, n2, c2, g2, rfl, hT2, hb5⟩))
    have hw5 : Below w2.heap.size w2 w5 := hb4.trans (hb5.mono hb4.size)
    have T1 := (unhide HT).on hw5
    have HT1 := hide T1
    have HT2 := hide hT2
    have hS1 : setB (gs.map Fb.l) = true := by rw [T1.eq]; exact set_of (unhide HAL)
    have HS1 := hide hS1
    have hww := bt hw2 hw5
    have hgn := T1.lenl
    have hg60 : n ≤ 60 := by
      have h2 := len_of_le (l := xs.map Fb.l)
      simp only [List.length_map] at h2
      omega
    clear T1 hT2 hS1 hown1 hown2 hb3 hb4 hb5 NR HC HSUM LD LT B1 B2 M1 M2 hi hz0 hz1 hz2 i1 i2 i3 i4 hgn HT hxi hw2 hw5
    have i5 : (0 : Int) < (ll : Int) := by omega
    go_wp2_with fail
    go_loopw [9, 10, 11, 12] (fun v i _ _ wr => ∃ (x : Int) (nq cq : Nat) (aq : Option Addr) (qs : List Fb) (L : List Fc), -1 ≤ x ∧ x < (ll : Int) ∧ i = .int .i64 x ∧ v = .slice aq nq cq ∧ (nq : Int) ≤ (ll : Int) - 1 - x ∧ Told w5.heap.size wr aq nq cq qs L ∧ Hid (setB L = true) ∧ Hid (∀ y, y ∈ L ↔ y ∈ (xs.drop (x + 1).toNat).map Fb.l) ∧ Below w5.heap.size w5 wr) (fun _ i _ _ _ => (intOf i + 1).toNat)
    case atStart =>
      refine ⟨(ll : Int) - 1, 0, 0, none, [], [], by omega, by omega, rfl, rfl, by omega, ⟨⟨World.ownsRow_nil _ _ _ _, by simp, rfl⟩, by simp, rfl⟩, hide rfl, hide ?_, Below.refl _ _⟩
      intro y
      rw [show ((ll : Int) - 1 + 1).toNat = ll by omega, List.drop_eq_nil_of_le hn2]
      simp
    case round =>
      obtain ⟨x, nq, cq, aq, qs, L, hx1, hx2, rfl, rfl, hnq, hT, HL, HM, hbw⟩ := hrel
      have hwr := bt hww hbw
      by_cases hx0 : 0 ≤ x
      · obtain ⟨j, rfl⟩ : ∃ j : Nat, x = j := ⟨x.toNat, by omega⟩
        have hjl : j < xs.length := by omega
        have hrow := hx.on hwr
        obtain ⟨b', o', ha', hbl', c0, c1, hin⟩ := hrow.up hjl
        simp only [Option.some.injEq, Addr.mk.injEq, and_true] at ha'
        obtain ⟨rfl, rfl⟩ := ha'
        have lf := hLx xs[j] (List.getElem_mem hjl)
        have hrf : rightF xs[j].l = true := List.all_eq_true.1 (unhide HAL) _ (List.mem_map.2 ⟨xs[j], List.getElem_mem hjl, rfl⟩)
        have HM' : Hid (∀ y, y ∈ putL cmpF L xs[j].l ↔ y ∈ (xs.drop (((j : Int) - 1) + 1).toNat).map Fb.l) := by
          refine hide ?_
          rw [show (((j : Int) - 1) + 1).toNat = j by omega]
          refine mem_step hjl ?_
          have := unhide HM
          rwa [show ((j : Int) + 1).toNat = j + 1 by omega] at this
        have HL' : Hid (setB (putL cmpF L xs[j].l) = true) := hide (set_put (unhide HL) hrf)
        have hmem : xs[j].l ∈ gs.map Fb.l := by
          rw [(unhide HT1).eq]
          exact (mem_of ord_fact _ _).2 (List.mem_map.2 ⟨xs[j], List.getElem_mem hjl, rfl⟩)
        have i6 : (j : Int) < (ll : Int) := hx2
        generalize xs[j] = f at c0 c1 hin lf hrf HM' HL' hmem
        have hp := put_ok aq nq cq qs f 0 0 wr hT.row hin (by rw [hT.len]; omega) (by rw [← hT.len]; omega) (by omega) hT.cap hT.light lf (hide (by rw [hT.eq]; exact chk_t (unhide HL))) (hide (chk_t hrf)) (hide rfl) (hide (by rw [hT.eq]; exact set_rise (unhide HL)))
        rw [hT.eq] at hp
        have hhas := fun W (hb : Below wr.heap.size wr W) => has_any a n c gs f true W (((unhide HT1).on (bt hbw hb)).row) (hin.on hb) (by rw [(unhide HT1).len]; omega) (by rw [← (unhide HT1).len]; omega) (by omega) (unhide HT1).len1k (hide (by simpa using hmem))
        have hlen := hT.lenl
        have hput := len_put_le (l := L) (x := f.l)
        have HLEN := hide hlen
        clear hmem hT HM HL hrow hrf hlen hjl
        go_wp2_with fail
        refine hp.mono ?_
        rintro e w6 ⟨a6, n6, k6, g6, rfl, hT6, hb6⟩
        have hh := hhas w6 hb6
        have d0 := cell_on hb6 c0
        have d1 := cell_on hb6 c1
        have hn6 : (n6 : Int) ≤ (ll : Int) - 1 - ((j : Int) - 1) := by
          have := hT6.lenl
          have := unhide HLEN
          omega
        clear hp hhas c0 c1 hin hput HLEN
        go_wp2_with fail
        refine hh.mono ?_
        rintro e w7 ⟨rfl, hb7⟩
        have hT7 := (hT6.on hb7)
        have hbw7 := bt hbw (bt hb6 hb7)
        have hT8 : Told w5.heap.size w7 a6 n6 k6 g6 (putL cmpF L f.l) := ⟨hT7.made.mono (by have := hbw.size; omega), hT7.light, hT7.eq⟩
        clear hh d0 d1 hT6 hT7 hb6 hb7
        go_wp2_with fail
        go_roundw
        case rel => exact ⟨(j : Int) - 1, n6, k6, a6, g6, putL cmpF L f.l, by omega, by omega, rfl, rfl, hn6, hT8, HL', HM', hbw7⟩
        case measure => simp [intOf]
      · have hxm : x = -1 := by omega
        subst hxm
        have eC : qs.map Fb.l = gs.map Fb.l := by
          rw [hT.eq, (unhide HT1).eq]
          refine is_of ord_fact (set_rise (unhide HL)) (fun y => ?_)
          have := unhide HM y
          simpa using this
        have EC := hide eC
        have HT3 := hide hT
        have HT1' := hide ((unhide HT1).on hbw)
        have HT2' := hide ((unhide HT2).on hbw)
        have hnq60 : nq ≤ 60 := by omega
        clear eC hT HM HL hx1 hx2 hx0 hnq HT1 HT2
        go_wp2_with fail
        go_loopw [13] (fun i wq => ∃ k : Nat, k ≤ n ∧ i = .int .i64 k ∧ Below wr.heap.size wr wq) (fun i _ => n - (intOf i).toNat)
        case atStart => exact ⟨0, Nat.zero_le _, rfl, Below.refl _ _⟩
        case round =>
          obtain ⟨k, hk, rfl, hbq⟩ := hrel
          have hwq := bt hwr hbq
          have T1 := (unhide HT1').on hbq
          by_cases hlt : k < n
          · have hkl : k < gs.length := by rw [← T1.len]; exact hlt
            obtain ⟨b', o', ha', hbl', c0, c1, hin⟩ := T1.row.up hkl
            subst ha'
            have hmem : gs[k].l ∈ xs.map Fb.l := by
              have : gs[k].l ∈ gs.map Fb.l := List.mem_map.2 ⟨gs[k], List.getElem_mem hkl, rfl⟩
              rw [T1.eq] at this
              exact (mem_of ord_fact _ _).1 this
            generalize gs[k] = f at c0 c1 hin hmem
            have hh := has_any (some ⟨b, o, none⟩) ll cl xs f true wr (hx.on hwq) hin hn1 hn2 (by omega) (fun f hf => by have := (hLx f hf).len; omega) (hide (by simpa using hmem))
            clear T1 hmem hin
            go_wp2_with fail
            refine hh.mono ?_
            rintro e w6 ⟨rfl, hb6⟩
            have hbq6 := bt hbq hb6
            clear hh c0 c1
            go_wp2_with fail
            go_roundw
            case rel => exact ⟨k + 1, by omega, by go_num, hbq6⟩
            case measure => simp [intOf]; omega
          · have T2 := (unhide HT2').on hbq
            have T3 := (unhide HT3).on hbq
            have e12 : gs.map Fb.l = _ := T1.eq.trans T2.eq.symm
            have h1 := keepFacts_t a a2 n c n2 c2 gs g2 wr T1.row T2.row T1.len T2.len (by omega) T1.len1k e12
            have h2 := fun W (hb : Below wr.heap.size wr W) => keepFacts_t a aq n c nq cq gs qs W (T1.on hb).row (T3.on hb).row T1.len T3.len (by omega) T1.len1k (unhide EC).symm
            have h3 := fun W (hb : Below wr.heap.size wr W) => scheck_x a n c gs 0 W (T1.on hb).row (by rw [T1.len]; omega) (by rw [← T1.len]; omega) (by omega) T1.light (hide (chk_t (unhide HS1)))
            clear T1 T2 T3 e12 EC HT3 HT1' HT2' HS1 HAL
            go_wp2_with fail
            refine h1.mono ?_
            rintro e w6 ⟨rfl, hb6⟩
            have h2' := h2 w6 hb6
            clear h1 h2
            go_wp2_with fail
            refine h2'.mono ?_
            rintro e w7 ⟨rfl, hb7⟩
            have hb67 := bt hb6 hb7
            have h3' := h3 w7 hb67
            clear h2' h3
            go_wp2_with fail
            refine h3'.mono ?_
            rintro e w8 ⟨rfl, hb8⟩
            have hb68 := bt hb67 hb8
            clear h3'
            go_wp2_with fail
            refine (wakes_any w8).mono ?_
            rintro e w9 ⟨rfl, hb9⟩
            have hfin := bt hwq (bt hb68 hb9)
            go_wp2_with fail
            go_ret
            exact ⟨rfl, hfin⟩
end Go.Proofs.Ytmnonjacomabbaa

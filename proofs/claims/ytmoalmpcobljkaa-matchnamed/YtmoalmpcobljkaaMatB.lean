/- What match.matchTerm, match.One answer. -/
import Derived.Test.YtmoalmpcobljkaaMatR
import Derived.Test.YtmoalmpcobljkaaSubJ
namespace Go.Proofs.Ytmoalmpcobljkaa.Sb
open Go.RowKit
open V

abbrev bxV (v : Vv) : Obj := .cells #[.int .i64 v.1, .int .i64 v.2.1, .string v.2.2] 40
set_option maxHeartbeats 2000000 in
theorem mt_any (t : Bb) (v : Vv) (a : Option Addr) (len cap : Nat) (xs us : List Bb) (ok : Bool) (w : World) (ht : Lt t) (hv : v.2.2.size ≤ 200) (hx : Lies w a len cap xs) (h1k : len ≤ 400) (hL : ∀ x ∈ xs, Lt x) (H : Hid (mtR t v xs = (us, ok))) :
    Calls Try.prog 22 #[.agg #[.string t.1, .int .i64 t.2.1, .int .i64 t.2.2.1, .string t.2.2.2], .agg #[.int .i64 v.1, .int .i64 v.2.1, .string v.2.2], .slice a len cap] w fun e w' => ∃ (q : Option Addr) (m c : Nat), e = .returned (.tuple #[.slice q m c, .bool ok]) ∧ Lies w' q m c us ∧ Below w.heap.size w w' := by
  have hb0 : Below w.heap.size w ((w.alloc (bxT t)).alloc (bxV v)) := ((Below.refl _ _).alloc (Nat.le_refl _) _).alloc (by simp) _
  have hx0 := hx.on hb0
  by_cases hz : t.1.size = 0
  · have e0 := emp_t hz
    have hm : mtR t v xs = if t.2 = v then (xs, true) else ([], false) := by rw [mtR, if_pos hz]
    rw [hm] at H
    clear hm hz
    have hE := eqV0 t.2 v
    by_cases he : t.2 = v
    · rw [if_pos he] at H
      obtain ⟨rfl, rfl⟩ := Prod.mk.inj (unhide H)
      rw [decide_eq_true he] at hE
      clear he H
      go_enter Try.func22, Try.ntmps22
      go_wp2_with fail
      go_ret2
      exact ⟨a, len, cap, rfl, hx0, hb0⟩
    · rw [if_neg he] at H
      obtain ⟨rfl, rfl⟩ := Prod.mk.inj (unhide H)
      rw [decide_eq_false he] at hE
      clear he H
      go_enter Try.func22, Try.ntmps22
      go_wp2_with fail
      go_ret2
      exact ⟨none, 0, 0, rfl, lies_none _, hb0⟩
  · have e0 := emp_f hz
    have hm : mtR t v xs = bothR xs [(t.1, v)] := by rw [mtR, if_neg hz]
    rw [hm] at H
    clear hm hz
    go_enter Try.func22, Try.ntmps22
    go_wp2_with fail
    refine (put_any a len cap xs us t.1 v ok _ hx0 h1k hL ht.1 hv H).mono ?_
    rintro e w1 ⟨q, m, c, rfl, hl1, hb1⟩
    have hw1 := bt hb0 hb1
    clear hb0 hb1 hx0 e0
    go_wp2_with fail
    go_ret2
    exact ⟨q, m, c, rfl, hl1, hw1⟩
theorem mt_k (t : Bb) (v : Vv) (a : Option Addr) (len cap : Nat) (xs us : List Bb) (ok : Bool) (w : World) (ht : Lt t) (hv : v.2.2.size ≤ 200) (hx : Lies w a len cap xs) (h1k : len ≤ 400) (hL : ∀ x ∈ xs, Lt x) (H : Hid (mtR t v xs = (us, ok))) :
    Calls Try.prog 22 #[.agg #[.string t.1, .int .i64 t.2.1, .int .i64 t.2.2.1, .string t.2.2.2], .agg #[.int .i64 v.1, .int .i64 v.2.1, .string v.2.2], .slice a len cap] w fun e w' => ∃ (q : Option Addr) (m c : Nat), e = .returned (.tuple #[.slice q m c, .bool ok]) ∧ Lies w' q m c us ∧ Below w.heap.size w w' ∧ (∀ b o v, w.cell? ⟨b, o, none⟩ = some v → w'.cell? ⟨b, o, none⟩ = some v) := by
  refine (mt_any t v a len cap xs us ok w ht hv hx h1k hL H).mono ?_
  rintro e w' ⟨q, m, c, rfl, h1, h2⟩
  exact ⟨q, m, c, rfl, h1, h2, fun b o v h => cell_on h2 h⟩
theorem lies_drew {w : World} {a : Option Addr} {n cap : Nat} {xs : List Bb} (h : Lies w a n cap xs) : Lies w.drew a n cap xs := h.on (Below.refl _ _).drew

abbrev bxA (n : ByteArray) (a : Option Addr) (len cap : Nat) : Obj := .cells #[.string n, .slice a len cap] 24
abbrev bxF (f : Fb) : Obj := .cells #[.string f.n, .slice f.a f.len f.cap] 27
/-- The two boxes of match.One: the atom, the fact. -/
structure Bo (W : World) (b : Nat) (n : ByteArray) (a : Option Addr) (len cap : Nat) (f : Fb) : Prop where
  a0 : W.cell? ⟨b, 0, none⟩ = some (.string n)
  a1 : W.cell? ⟨b, 1, none⟩ = some (.slice a len cap)
  b0 : W.cell? ⟨b + 1, 0, none⟩ = some (.string f.n)
  b1 : W.cell? ⟨b + 1, 1, none⟩ = some (.slice f.a f.len f.cap)
theorem Bo.on {W w1 : World} {b : Nat} {n : ByteArray} {a : Option Addr} {len cap : Nat} {f : Fb} (T : Bo W b n a len cap f) (hb : Below W.heap.size W w1) : Bo w1 b n a len cap f :=
  ⟨cell_on hb T.a0, cell_on hb T.a1, cell_on hb T.b0, cell_on hb T.b1⟩
theorem bo_of (w : World) (n : ByteArray) (a : Option Addr) (len cap : Nat) (f : Fb) : Bo ((w.alloc (bxA n a len cap)).alloc (bxF f)) w.heap.size n a len cap f := by
  have k1 := heap_alloc_new (w.alloc (bxA n a len cap)) (bxF f)
  rw [show (w.alloc (bxA n a len cap)).heap.size = w.heap.size + 1 by simp] at k1
  have k0 : ((w.alloc (bxA n a len cap)).alloc (bxF f)).heap[w.heap.size]? = some (bxA n a len cap) := (Lib.alloc_old _ _ _ (by simp)).trans (heap_alloc_new w _)
  obtain ⟨x0, x1⟩ := pair_of k0
  obtain ⟨y0, y1⟩ := pair_of k1
  exact ⟨x0, x1, y0, y1⟩
theorem one_no1 {n : ByteArray} {ts : List Bb} {f : Fb} {l : List Bb} (h : rightA n ts = false) : oneR n ts f l = ([], false) := if_neg (by rw [h]; simp)
theorem one_no2 {n : ByteArray} {ts : List Bb} {f : Fb} {l : List Bb} (h : rightF f.l = false) : oneR n ts f l = ([], false) := if_neg (by rw [h]; simp)
theorem one_no3 {n : ByteArray} {ts : List Bb} {f : Fb} {l : List Bb} (h : n ≠ f.n) : oneR n ts f l = ([], false) := if_neg (fun g => h g.2.2.1)
theorem one_no4 {n : ByteArray} {ts : List Bb} {f : Fb} {l : List Bb} (h : ts.length ≠ f.vs.length) : oneR n ts f l = ([], false) := if_neg (fun g => h g.2.2.2.1)
theorem one_no5 {n : ByteArray} {ts : List Bb} {f : Fb} {l : List Bb} (h : listB l = false) : oneR n ts f l = ([], false) := if_neg (by rw [h]; simp)
theorem one_yes {n : ByteArray} {ts : List Bb} {f : Fb} {l : List Bb} (h1 : rightA n ts = true) (h2 : rightF f.l = true) (h3 : n = f.n) (h4 : ts.length = f.vs.length) (h5 : listB l = true) : oneR n ts f l = finR ts (f.vs.map vv) l := if_pos ⟨h1, h2, h3, h4, h5⟩
theorem acheck_x (n : ByteArray) (a : Option Addr) (len cap : Nat) (ts : List Bb) (r : Int) (w : World) (hn : n.size ≤ 200) (hv : ∀ t ∈ ts, Lt t) (hrow : Lies w a len cap ts) (h20 : len ≤ 20) (H : Hid (chk (rightA n ts) = r)) :
    Calls Try.prog 19 #[.agg #[.string n, .slice a len cap]] w fun e w' => e = .returned (.int .i64 r) ∧ Below w.heap.size w w' := by
  have := acheck_any n a len cap ts w hn hv hrow.row hrow.le hrow.ge h20
  rw [unhide H] at this
  exact this
theorem fcheck_x (f : Fb) (r : Int) (w : World) (hf : f.In w) (hl : f.Light) (H : Hid (chk (rightF f.l) = r)) :
    Calls Try.prog 20 #[.agg #[.string f.n, .slice f.a f.len f.cap]] w fun e w' => e = .returned (.int .i64 r) ∧ Below w.heap.size w w' := by
  have := fcheck_fb f w hf hl
  rw [unhide H] at this
  exact this

set_option maxHeartbeats 8000000 in
set_option maxRecDepth 100000 in
theorem one_any (n : ByteArray) (a : Option Addr) (len cap : Nat) (ts : List Bb) (f : Fb) (la : Option Addr) (ln lc : Nat) (xs us : List Bb) (ok : Bool) (w : World) (hn : n.size ≤ 200) (hT : ∀ t ∈ ts, Lt t) (hA : Lies w a len cap ts) (h20 : len ≤ 20) (hf : f.In w) (hF : f.Light)
    (hx : Lies w la ln lc xs) (h1k : ln ≤ 400) (hL : ∀ x ∈ xs, Lt x) (H : Hid (oneR n ts f xs = (us, ok))) :
    Calls Try.prog 8 #[.agg #[.string n, .slice a len cap], .agg #[.string f.n, .slice f.a f.len f.cap], .slice la ln lc] w fun e w' => ∃ (q : Option Addr) (m c : Nat), e = .returned (.tuple #[.slice q m c, .bool ok]) ∧ Lies w' q m c us ∧ Below w.heap.size w w' := by
  have hb0 : Below w.heap.size w ((w.alloc (bxA n a len cap)).alloc (bxF f)) := ((Below.refl _ _).alloc (Nat.le_refl _) _).alloc (by simp) _
  have T := bo_of w n a len cap f
  have hs0 : w.heap.size + 1 < ((w.alloc (bxA n a len cap)).alloc (bxF f)).heap.size := by simp
  have HP := hide hA.len
  have HP' := hide hf.len
  cases hra : rightA n ts with
  | false =>
    obtain ⟨rfl, rfl⟩ := Prod.mk.inj ((one_no1 hra).symm.trans (unhide H))
    have hc := acheck_x n a len cap ts 1 _ hn hT (hA.on hb0) h20 (hide (chk_f hra))
    clear H hra
    go_enter Try.func8, Try.ntmps8
    go_wp2_with fail
    refine hc.mono ?_
    rintro e w1 ⟨rfl, hb1⟩
    have hw1 := bt hb0 hb1
    clear hc hb1 hb0
    go_wp2_with fail
    go_ret2
    exact ⟨none, 0, 0, rfl, lies_none _, hw1⟩
  | true =>
    have hc := acheck_x n a len cap ts 0 _ hn hT (hA.on hb0) h20 (hide (chk_t hra))
    have HRA := hide hra
    clear hra
    go_enter Try.func8, Try.ntmps8
    go_wp2_with fail
    refine hc.mono ?_
    rintro e w1 ⟨rfl, hb1⟩
    have hw1 := bt hb0 hb1
    have T1 := T.on hb1
    have hs1 : w.heap.size + 1 < w1.heap.size := by have := hb1.size; omega
    clear hc hb1 hb0 T hs0
    obtain ⟨a0, a1, b0, b1⟩ := T1
    cases hrf : rightF f.l with
    | false =>
      obtain ⟨rfl, rfl⟩ := Prod.mk.inj ((one_no2 hrf).symm.trans (unhide H))
      have hc := fcheck_x f 1 w1 (hf.on hw1) hF (hide (chk_f hrf))
      clear H hrf
      go_wp2_with fail
      refine hc.mono ?_
      rintro e w2 ⟨rfl, hb2⟩
      have hw2 := bt hw1 hb2
      clear hc hb2 hw1
      go_wp2_with fail
      go_ret2
      exact ⟨none, 0, 0, rfl, lies_none _, hw2⟩
    | true =>
      have hc := fcheck_x f 0 w1 (hf.on hw1) hF (hide (chk_t hrf))
      have HRF := hide hrf
      clear hrf
      go_wp2_with fail
      refine hc.mono ?_
      rintro e w2 ⟨rfl, hb2⟩
      have hw2 := bt hw1 hb2
      replace a0 := cell_on hb2 a0
      replace a1 := cell_on hb2 a1
      replace b0 := cell_on hb2 b0
      replace b1 := cell_on hb2 b1
      have hs2 : w.heap.size + 1 < w2.heap.size := by have := hb2.size; omega
      clear hc hb2 hw1 hs1
      by_cases hnn : n = f.n
      · have en := str_t hnn
        by_cases hll : len = f.len
        · have el : ((len : Int) != f.len) = false := by simp; omega
          have hlv : ts.length = f.vs.length := by have := unhide HP; have := unhide HP'; omega
          have HLV := hide hlv
          have HLL := hide hll
          have HNN := hide hnn
          clear hlv hll hnn
          obtain ⟨⟨cur0, ok0⟩, hu⟩ : ∃ r, bothR xs [] = r := ⟨_, rfl⟩
          have HST : Hid (Upto ts (f.vs.map vv) xs (us, ok) 0 cur0 ok0) := by
            refine hide ?_
            cases hls : listB xs with
            | true =>
              rw [both_nil_t hls] at hu
              obtain ⟨rfl, rfl⟩ := Prod.mk.inj hu
              exact Or.inl ⟨rfl, rfl, (one_yes (unhide HRA) (unhide HRF) (unhide HNN) (unhide HLV) hls).symm.trans (unhide H)⟩
            | false =>
              rw [both_nil_f hls] at hu
              obtain ⟨rfl, rfl⟩ := Prod.mk.inj hu
              exact Or.inr ⟨rfl, rfl, (one_no5 hls).symm.trans (unhide H)⟩
          have HC0 : Hid (listB cur0 = true ∧ ∀ x ∈ cur0, Lt x) := by
            refine hide ⟨both_list hu, ?_⟩
            cases ok0 with
            | true => rw [(both_ok hu).2.2.2]; exact lt_un hL (by intro x hx; cases hx)
            | false => rw [both_no hu]; intro x hx; cases hx
          have HU := hide hu
          clear hu H
          go_wp2_with fail
          refine (both_any la none ln lc 0 0 xs [] cur0 ok0 w2 (hx.on hw2) (lies_none _) h1k (by omega) hL (by intro x hx; cases hx) HU).mono ?_
          rintro e w3 ⟨q, m, c, rfl, hl3, hb3⟩
          have hw3 := bt hw2 hb3
          replace a1 := cell_on hb3 a1
          replace b1 := cell_on hb3 b1
          have hs3 : w.heap.size + 1 < w3.heap.size := by have := hb3.size; omega
          clear hb3 hw2 hs2 HU a0 b0 en el
          go_wp2_with fail
          go_loopw [8, 9, 10, 11, 44] (fun s8 s9 _ _ i wr => ∃ (k : Nat) (cur : List Bb) (okk : Bool) (q : Option Addr) (m c : Nat), k ≤ len ∧ i = .int .i64 k ∧ s8 = .slice q m c ∧ s9 = .bool okk ∧ Lies wr q m c cur ∧ Hid (Upto ts (f.vs.map vv) xs (us, ok) k cur okk) ∧ Hid (listB cur = true ∧ ∀ x ∈ cur, Lt x) ∧ Below w3.heap.size w3 wr) (fun _ _ _ _ i _ => len - (intOf i).toNat)
          case atStart => exact ⟨0, cur0, ok0, q, m, c, Nat.zero_le _, rfl, rfl, rfl, hl3, HST, HC0, Below.refl _ _⟩
          case round =>
            clear HST HC0 hl3
            obtain ⟨k, cur, okk, q, m, c, hk, rfl, rfl, rfl, hl, HU, HC, hbw⟩ := hrel
            have hww := bt hw3 hbw
            by_cases hlt : k < len
            · have hkt : k < ts.length := by rw [← unhide HP]; exact hlt
              have hkv : k < f.vs.length := by rw [← unhide HLV]; exact hkt
              have hkf : k < f.len := by rw [← unhide HLL]; exact hlt
              obtain ⟨b, o, ha, hbl, c0, c1, c2, c3⟩ := (hA.on hww).row.up hkt
              obtain ⟨b', o', hfa, hbl', d0, d1, d2⟩ := (hf.on hww).row.up hkv
              have b1r := cell_on hbw b1
              rw [hfa] at b1r
              clear hfa
              subst ha
              cases okk with
              | false =>
                have HE : Hid (([], false) = (us, ok)) := by
                  rcases unhide HU with ⟨h, _⟩ | ⟨_, _, h⟩
                  · cases h
                  · exact h
                obtain ⟨rfl, rfl⟩ := Prod.mk.inj (unhide HE)
                clear HE HU
                generalize ts[k] = t at c0 c1 c2 c3
                go_wp2_with fail
                go_ret2
                exact ⟨none, 0, 0, rfl, lies_none _, hww.alloc hww.size _⟩
              | true =>
                obtain ⟨⟨cur', ok'⟩, hu'⟩ : ∃ r, mtR ts[k] (vv f.vs[k]) cur = r := ⟨_, rfl⟩
                have hLt := hT ts[k] (List.getElem_mem hkt)
                have hLv : (vv f.vs[k]).2.2.size ≤ 200 := hF.vs f.vs[k] (List.getElem_mem hkv)
                have HN : Hid (Upto ts (f.vs.map vv) xs (us, ok) (k + 1) cur' ok') := by
                  rcases unhide HU with ⟨_, h1, h2⟩ | ⟨h, _⟩
                  · exact upto_next (by rw [List.length_map]; exact unhide HLV) hkt h1 h2 (by rw [List.getElem_map]; exact hu')
                  · cases h
                have HC' : Hid (listB cur' = true ∧ ∀ x ∈ cur', Lt x) := hide ⟨mt_list (unhide HC).1 hu', lt_mt hu' (unhide HC).2 hLt hLv⟩
                have HM := hide hu'
                clear hu' HU
                have hm4 : m ≤ 400 := by have := hl.len; have := list_len (unhide HC).1; omega
                have hLc := hide (unhide HC).2
                have d0' : wr.cell? ⟨b', o' + k * 3, none⟩ = some (.int .i64 (vv f.vs[k]).1) := d0
                have d1' : wr.cell? ⟨b', o' + k * 3 + 1, none⟩ = some (.int .i64 (vv f.vs[k]).2.1) := d1
                have d2' : wr.cell? ⟨b', o' + k * 3 + 2, none⟩ = some (.string (vv f.vs[k]).2.2) := d2
                clear d0 d1 d2 HC
                have e2 : (k : Int) < (f.len : Int) := by omega
                generalize vv f.vs[k] = v at d0' d1' d2' hLv HM
                generalize ts[k] = t at c0 c1 c2 c3 hLt HM
                have hla := (hl.on ((Below.refl _ _).alloc (Nat.le_refl _) (bxT t)))
                have hld := lies_drew hla
                go_wp2_with fail
                go_region_held3 (fun w' => w'.cell? ⟨wr.heap.size, 0, none⟩ = some (.string t.1) ∧ w'.cell? ⟨wr.heap.size, 1, none⟩ = some (.int .i64 t.2.1) ∧ w'.cell? ⟨wr.heap.size, 2, none⟩ = some (.int .i64 t.2.2.1) ∧ w'.cell? ⟨wr.heap.size, 3, none⟩ = some (.string t.2.2.2) ∧ w'.cell? ⟨w.heap.size + 1, 1, none⟩ = some (.slice (some ⟨b', o', none⟩) f.len f.cap) ∧ w'.cell? ⟨b', o' + k * 3, none⟩ = some (.int .i64 v.1) ∧ w'.cell? ⟨b', o' + k * 3 + 1, none⟩ = some (.int .i64 v.2.1) ∧ w'.cell? ⟨b', o' + k * 3 + 2, none⟩ = some (.string v.2.2)) (go_keep) (first | (go_at_call 22; refine (mt_k t v q m c cur cur' ok' _ hLt hLv hld hm4 (unhide hLc) HM).mono ?_; rintro e w7 ⟨q7, m7, c7, rfl, hl7, hb7, hk7⟩))
                have hbw7 : Below w3.heap.size w3 w7 := bt (hbw.alloc hbw.size _).drew hb7
                clear c0 c1 c2 c3 hk7 hb7 hla hld d0' d1' d2' b1r hLc HM hl
                go_wp2_with fail
                go_roundw
                case rel => exact ⟨k + 1, cur', ok', q7, m7, c7, by omega, by go_num, rfl, rfl, hl7, HN, HC', hbw7⟩
                case measure => simp [intOf]; omega
            · have HE := hide (upto_end (unhide HU) (by rw [← unhide HP]; omega) (by rw [List.length_map, ← unhide HLV, ← unhide HP]; omega))
              obtain ⟨rfl, rfl⟩ := Prod.mk.inj (unhide HE)
              clear HE HU
              go_wp2_with fail
              go_ret2
              exact ⟨q, m, c, rfl, hl, hww⟩
        · have el : ((len : Int) != f.len) = true := by simp; omega
          obtain ⟨rfl, rfl⟩ := Prod.mk.inj ((one_no4 (by have := unhide HP; have := unhide HP'; omega)).symm.trans (unhide H))
          clear H hll hnn
          go_wp2_with fail
          go_ret2
          exact ⟨none, 0, 0, rfl, lies_none _, hw2⟩
      · have en := str_f hnn
        obtain ⟨rfl, rfl⟩ := Prod.mk.inj ((one_no3 hnn).symm.trans (unhide H))
        clear H hnn
        go_wp2_with fail
        go_ret2
        exact ⟨none, 0, 0, rfl, lies_none _, hw2⟩
end Go.Proofs.Ytmoalmpcobljkaa.Sb

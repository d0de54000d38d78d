/- The walk of constablelaw09.LexJoin: it answers true, whatever the text and the numbers. -/
import Derived.Test.YtaapeleoiclplaaDoorLexJa
import Derived.Test.YtaapeleoiclplaaDoorLexPl
import Derived.Test.YtaapeleoiclplaaDoorLexY
namespace Go.Proofs.YtaapeleoiclplaaDoor
open Go.RowKit
open V

theorem idx5 (h : Int) : 0 ≤ wrap64 ((IntKind.u64.wrap h).tmod 5) ∧ wrap64 ((IntKind.u64.wrap h).tmod 5) < 5 := by
  have h0 : 0 ≤ IntKind.u64.wrap h := by simp [IntKind.wrap, IntKind.bits, IntKind.signed]; omega
  generalize IntKind.u64.wrap h = m at h0
  rw [Int.tmod_eq_emod_of_nonneg h0]
  have e1 : wrap64 (m % 5) = m % 5 := by simp [wrap64]; omega
  rw [e1]
  omega
theorem RowN.on {w w' : World} {a : Option Addr} {n : Nat} {zs : List Int} (h : RowN w a n zs) (hb : Below w.heap.size w w') : RowN w' a n zs := by
  rcases h with h | ⟨b, o, ha, hl, hc⟩
  · exact Or.inl h
  · exact Or.inr ⟨b, o, ha, hl, fun j hj => cell_on hb (hc j hj)⟩
def valB : List Value := [.string ⟨#[32]⟩, .string ⟨#[10]⟩, .string ⟨#[9, 13]⟩, .string ⟨#[32, 37, 32, 120, 32, 40, 32, 34, 10]⟩, .string ⟨#[32, 32]⟩]
theorem valB_at : ∀ t (h : t < 5), valB[t]'(by simp [valB]; omega) = .string ⟨(blanksL[t]'(by simp [blanksL]; omega)).toArray⟩ := by
  intro t h
  have : t = 0 ∨ t = 1 ∨ t = 2 ∨ t = 3 ∨ t = 4 := by omega
  rcases this with rfl | rfl | rfl | rfl | rfl <;> rfl
theorem cell_blank {w : World} {b : Nat} (h : w.heap[b]? = some (.cells valB.toArray 9)) (t : Nat) (ht : t < 5) : w.cell? ⟨b, t, none⟩ = some (.string ⟨(blanksL[t]'(by simp [blanksL]; omega)).toArray⟩) := by
  rw [Lib.cell_of_heap h, List.getElem?_toArray, List.getElem?_eq_getElem (by simp [valB]; omega), valB_at t ht]
theorem join_q (a : Option Addr) (len cap : Nat) (xs : List Tm) (j : ByteArray) (w : World) (hl : LiesT w a len cap xs) (hj : (joinT xs).length ≤ 1000000) (h1k : len ≤ 20000) (H : Hid (j.data.toList = joinT xs)) :
    Calls Tryd.prog 11 #[.slice a len cap] w fun e w' => e = .returned (.string j) ∧ Below w.heap.size w w' := by
  have h := join_any a len cap xs w hl.row hl.le hl.ge hj h1k
  rw [← unhide H, str_of] at h
  exact h
theorem alloc_on {w0 w : World} (h : Below w0.heap.size w0 w) (o : Obj) : Below w0.heap.size w0 (w.alloc o) := h.alloc h.size o
theorem box_on (w : World) (o : Obj) : Below w.heap.size w (w.alloc o) := (Below.refl _ _).alloc (Nat.le_refl _) _

set_option maxHeartbeats 16000000 in
set_option maxRecDepth 100000 in
theorem joined_law (s : ByteArray) (ma : Option Addr) (ml mc : Nat) (zs : List Int) (w : World) (he : Env w) (hm : RowN w ma ml zs) :
    Calls Tryd.prog 4 #[.string s, .slice ma ml mc] w fun e w' => e = .returned (.bool true) ∧ Below w.heap.size w w' := by
  by_cases h15 : 1500 < s.size
  · have d0 : decide ((1500 : Int) < (s.size : Int)) = true := decide_eq_true (by omega)
    clear h15
    go_enter Tryd.func4, Tryd.ntmps4
    go_wp2_with fail
    go_ret
    exact ⟨rfl, Below.refl _ _⟩
  have d0 : decide ((1500 : Int) < (s.size : Int)) = false := decide_eq_false (by omega)
  by_cases h400 : 400 < ml
  · have d1 : decide ((400 : Int) < (ml : Int)) = true := decide_eq_true (by omega)
    clear h15 h400
    go_enter Tryd.func4, Tryd.ntmps4
    go_wp2_with fail
    go_ret
    exact ⟨rfl, Below.refl _ _⟩
  have d1 : decide ((400 : Int) < (ml : Int)) = false := decide_eq_false (by omega)
  have hs : s.size ≤ 20000 := by omega
  have hsp := lex_spots s
  cases hlx : lexA rightK s.data.toList 0 with
  | error q =>
    have HX := hide hlx
    obtain ⟨a, b, hp⟩ : ∃ a b, posL s.data.toList q = (a, b) := ⟨_, _, rfl⟩
    have HP := hide hp
    clear hlx hp hsp
    go_enter Tryd.func4, Tryd.ntmps4
    go_wp2_with fail
    refine (lex_err s q a b _ hs he HX HP).mono ?_
    rintro e w1 ⟨rfl, hb1⟩
    have hbx := bt hb1 (box_on w1 (.cells #[.int .i64 a, .int .i64 b] 25))
    go_wp2_with (go_at_call 12; refine (wakes_any _ (he.on hbx)).mono ?_; rintro e w3 ⟨rfl, hb3⟩)
    go_ret
    exact ⟨rfl, bt hbx hb3⟩
  | ok ts =>
    obtain ⟨hG, hS⟩ := hsp.1 ts hlx
    have hlen := spots_len (Nat.zero_le _) hS
    rw [size_list] at hlen
    have hL15 : lenT ts ≤ 1500 := by omega
    have ht15 : ts.length ≤ 1500 := by omega
    have HG := hide hG
    have HX := hide hlx
    clear hlx hsp hG hS hlen
    obtain ⟨S, HS⟩ : ∃ S, Hid (s.data.toList = S) := ⟨_, hide rfl⟩
    obtain ⟨us, hus, hku⟩ := join_same (S := S) (unhide HG)
    have hjl := join_len S ts
    obtain ⟨jj, hjj⟩ : ∃ jj : ByteArray, jj = ⟨(joinT (ts.map (tm S))).toArray⟩ := ⟨_, rfl⟩
    have hjd : jj.data.toList = joinT (ts.map (tm S)) := by rw [hjj]
    have HJ := hide hjd
    have hjs : jj.size ≤ 20000 := by rw [← size_list, hjd]; omega
    have hj1 : (joinT (ts.map (tm S))).length ≤ 1000000 := by omega
    have HUS : Hid (lexA rightK jj.data.toList 0 = .ok us) := hide (by rw [hjd]; exact hus)
    have HKU := hide hku
    have hul := kt_len hku
    clear hjj hjd hjl hus hku
    go_enter Tryd.func4, Tryd.ntmps4
    go_wp2_with fail
    refine (lex_tm s ts _ hs he HX).mono ?_
    rintro e w1 ⟨⟨la, lc, rfl, hl⟩, hb1⟩
    rw [unhide HS] at hl
    have hlx := hl.on (box_on w1 (.cells #[.int .i64 0, .int .i64 0] 25))
    have hbx := bt hb1 (box_on w1 (.cells #[.int .i64 0, .int .i64 0] 25))
    clear hl hb1
    go_wp2_with fail
    generalize w1.alloc (.cells #[.int .i64 0, .int .i64 0] 25) = W1 at hlx hbx ⊢
    refine (join_q la ts.length lc _ jj _ hlx hj1 (by omega) HJ).mono ?_
    rintro e w2 ⟨rfl, hb2⟩
    have hl2 := hlx.on hb2
    have hbw2 := bt hbx hb2
    clear hlx hbx hb2
    go_wp2_with fail
    refine (lex_tm jj us _ hjs (he.on hbw2) HUS).mono ?_
    rintro e w3 ⟨⟨ka, kc, rfl, hk3⟩, hb3⟩
    have hl3 := hl2.on hb3
    have hbw3 := bt hbw2 hb3
    clear hl2 hbw2 hb3
    have hl4 := (hl3.on (box_on w3 (.cells #[.int .i64 0, .int .i64 0] 25))).on (box_on _ (.cells valB.toArray 9))
    have hk4 := (hk3.on (box_on w3 (.cells #[.int .i64 0, .int .i64 0] 25))).on (box_on _ (.cells valB.toArray 9))
    have hbw4 := alloc_on (alloc_on hbw3 (.cells #[.int .i64 0, .int .i64 0] 25)) (.cells valB.toArray 9)
    have hB4 := heap_alloc_new (w3.alloc (.cells #[.int .i64 0, .int .i64 0] 25)) (.cells valB.toArray 9)
    rw [show (w3.alloc (.cells #[.int .i64 0, .int .i64 0] 25)).heap.size = w3.heap.size + 1 by simp] at hB4
    have hm4 := hm.on hbw4
    clear hl3 hk3 hbw3
    go_wp2_with fail
    have hW : (w3.alloc (.cells #[.int .i64 0, .int .i64 0] 25)).alloc (.cells #[.string ⟨#[32]⟩, .string ⟨#[10]⟩, .string ⟨#[9, 13]⟩, .string ⟨#[32, 37, 32, 120, 32, 40, 32, 34, 10]⟩, .string ⟨#[32, 32]⟩] 9) = (w3.alloc (.cells #[.int .i64 0, .int .i64 0] 25)).alloc (.cells valB.toArray 9) := rfl
    rw [hW]
    clear hW
    generalize (w3.alloc (.cells #[.int .i64 0, .int .i64 0] 25)).alloc (.cells valB.toArray 9) = W4 at hl4 hk4 hbw4 hB4 hm4 ⊢
    generalize w3.heap.size + 1 = bb at hB4 ⊢
    go_loopw [12, 13] (fun t i wr => ∃ (k : Nat) (tt : ByteArray) (u : Nat), k ≤ ts.length ∧ t = .string tt ∧ i = .int .i64 k ∧ Hid (Fits ts k tt.data.toList) ∧ tt.size ≤ 9 * k + u ∧ u ≤ 1500 ∧ Hid (lenT (ts.take k) = u) ∧ (∃ d, wr = W4.drewN d)) (fun _ i _ => ts.length - (intOf i).toNat)
    case atStart => exact ⟨0, ⟨#[]⟩, 0, Nat.zero_le _, rfl, rfl, hide (fits_zero ts), by decide, by omega, hide rfl, 0, rfl⟩
    case round =>
      obtain ⟨k, tt, u, hk, rfl, rfl, HF, hsz, hu, HU, d, rfl⟩ := hrel
      by_cases hlt : k < ts.length
      · have hlt' : (k : Int) < (ts.length : Int) := by omega
        have l1 : decide ((k : Int) < (ts.length : Int)) = true := decide_eq_true hlt'
        obtain ⟨b, o, ha, hbl, c0, c1, c2, c3⟩ := hl4.row.up (i := k) (by rw [List.length_map]; exact hlt)
        subst ha
        rw [List.getElem_map] at c1
        simp only [tm] at c1
        clear c0 c2 c3
        obtain ⟨z, hz⟩ : ∃ z : ByteArray, z = ⟨ts[k].2.1.toArray⟩ := ⟨_, rfl⟩
        have hzl : z.data.toList = ts[k].2.1 := by rw [hz]
        rw [← hz] at c1
        have HU1 : Hid (lenT (ts.take (k + 1)) = u + z.size) := by
          show _ = _
          rw [List.take_succ_eq_append_getElem hlt, lenT_app, unhide HU, ← size_list, hzl]
          simp [lenT]
        have htk := lenT_take ts (k + 1)
        clear hz
        by_cases hkm : k < ml
        · have m1 : decide ((k : Int) < (ml : Int)) = true := decide_eq_true (by omega)
          have hkm' : (k : Int) < (ml : Int) := by omega
          obtain ⟨mb, mo, hma, hmc⟩ : ∃ mb mo, ma = some ⟨mb, mo, none⟩ ∧ W4.cell? ⟨mb, mo + k, none⟩ = some (.int .i64 (zs.getD k 0)) := by
            rcases hm4 with h | ⟨mb, mo, h1, h2, h3⟩
            · omega
            · exact ⟨mb, mo, h1, h3 k (by omega)⟩
          subst hma
          generalize zs.getD k 0 = y at hmc
          obtain ⟨i0, i1⟩ := idx5 y
          have hbt : (wrap64 ((IntKind.u64.wrap y).tmod 5)).toNat < 5 := by omega
          have hbm : blanksL[(wrap64 ((IntKind.u64.wrap y).tmod 5)).toNat]'(by simp [blanksL]; omega) ∈ blanksL := List.getElem_mem _
          have hbl9 := (blanks_sep _ hbm).2.2
          have HF' : Hid (Fits ts (k + 1) (tt ++ ⟨(blanksL[(wrap64 ((IntKind.u64.wrap y).tmod 5)).toNat]'(by simp [blanksL]; omega)).toArray⟩ ++ z).data.toList) := by
            show Fits _ _ _
            rw [data_app2, data_app2, hzl]
            exact fits_more (unhide HF) hlt hbm
          have hsz2 : (tt ++ ⟨(blanksL[(wrap64 ((IntKind.u64.wrap y).tmod 5)).toNat]'(by simp [blanksL]; omega)).toArray⟩ ++ z).size ≤ 9 * (k + 1) + (u + z.size) := by
            rw [size_app2, size_app2]
            have : (⟨(blanksL[(wrap64 ((IntKind.u64.wrap y).tmod 5)).toNat]'(by simp [blanksL]; omega)).toArray⟩ : ByteArray).size = (blanksL[(wrap64 ((IntKind.u64.wrap y).tmod 5)).toNat]'(by simp [blanksL]; omega)).length := by rw [← size_list]
            omega
          have hu' : u + z.size ≤ 1500 := by rw [← unhide HU1]; omega
          have HU' := HU1
          obtain ⟨bq, hbq⟩ : ∃ bq : ByteArray, bq = ⟨(blanksL[(wrap64 ((IntKind.u64.wrap y).tmod 5)).toNat]'(by simp [blanksL]; omega)).toArray⟩ := ⟨_, rfl⟩
          have hcB := cell_blank hB4 _ hbt
          rw [← hbq] at hcB HF' hsz2
          have hbs : bq.size ≤ 9 := by rw [hbq, ← size_list]; exact hbl9
          clear hbq hbl9 hzl
          have nb1 : ¬ 9223372036854775807 < tt.size + bq.size := by omega
          have nb2 : ¬ 9223372036854775807 < tt.size + bq.size + z.size := by omega
          have nb3 : ¬ 9223372036854775807 < (tt ++ bq).size + z.size := by rw [size_app2]; omega
          have hcB' := cell_on (below_drewN (Below.refl _ _) d) hcB
          have hc1' := cell_on (below_drewN (Below.refl _ _) d) c1
          go_wp2_with fail
          go_region_held3 (fun w' => w'.cell? ⟨bb, (wrap64 ((IntKind.u64.wrap y).tmod 5)).toNat, none⟩ = some (.string bq) ∧ w'.cell? ⟨b, o + k * 4 + 1, none⟩ = some (.string z)) (go_keep) (fail)
          all_goals
            go_wp2_with fail
            go_roundw
            case rel => exact ⟨k + 1, tt ++ bq ++ z, u + z.size, by omega, rfl, by go_num, HF', hsz2, hu', HU', d + 1, rfl⟩
            case measure => simp [intOf]; omega
        · have m1 : decide ((k : Int) < (ml : Int)) = false := decide_eq_false (by omega)
          have hbm : blanksL[0] ∈ blanksL := List.getElem_mem _
          have hbl9 := (blanks_sep _ hbm).2.2
          have HF' : Hid (Fits ts (k + 1) (tt ++ ⟨(blanksL[0]).toArray⟩ ++ z).data.toList) := by
            show Fits _ _ _
            rw [data_app2, data_app2, hzl]
            exact fits_more (unhide HF) hlt hbm
          have hsz2 : (tt ++ ⟨(blanksL[0]).toArray⟩ ++ z).size ≤ 9 * (k + 1) + (u + z.size) := by
            rw [size_app2, size_app2]
            have : (⟨(blanksL[0]).toArray⟩ : ByteArray).size = (blanksL[0]).length := by rw [← size_list]
            omega
          have hu' : u + z.size ≤ 1500 := by rw [← unhide HU1]; omega
          have HU' := HU1
          obtain ⟨bq, hbq⟩ : ∃ bq : ByteArray, bq = ⟨(blanksL[0]).toArray⟩ := ⟨_, rfl⟩
          have hcB := cell_blank hB4 0 (by decide)
          rw [← hbq] at hcB HF' hsz2
          have hbs : bq.size ≤ 9 := by rw [hbq, ← size_list]; exact hbl9
          clear hbq hbl9 hzl
          have nb1 : ¬ 9223372036854775807 < tt.size + bq.size := by omega
          have nb2 : ¬ 9223372036854775807 < tt.size + bq.size + z.size := by omega
          have nb3 : ¬ 9223372036854775807 < (tt ++ bq).size + z.size := by rw [size_app2]; omega
          have hcB' := cell_on (below_drewN (Below.refl _ _) d) hcB
          have hc1' := cell_on (below_drewN (Below.refl _ _) d) c1
          go_wp2_with fail
          go_region_held3 (fun w' => w'.cell? ⟨bb, 0, none⟩ = some (.string bq) ∧ w'.cell? ⟨b, o + k * 4 + 1, none⟩ = some (.string z)) (go_keep) (fail)
          all_goals
            go_wp2_with fail
            go_roundw
            case rel => exact ⟨k + 1, tt ++ bq ++ z, u + z.size, by omega, rfl, by go_num, HF', hsz2, hu', HU', d + 1, rfl⟩
            case measure => simp [intOf]; omega
      · have l1 : decide ((k : Int) < (ts.length : Int)) = false := decide_eq_false (by omega)
        have hkl : k = ts.length := by omega
        subst hkl
        obtain ⟨vs, hvs, hkv⟩ := fits_same (unhide HG) (unhide HF)
        have HVS := hide hvs
        have HKV := hide hkv
        have hvl := kt_len hkv
        have htt : tt.size ≤ 20000 := by omega
        have hbd : Below W4.heap.size W4 (W4.drewN d) := below_drewN (Below.refl _ _) d
        have hl5 := hl4.on hbd
        have hk5 := hk4.on hbd
        have hbw5 := bt hbw4 hbd
        clear hvs hkv hl4 hk4 hB4 hm4 hbw4
        go_wp2_with fail
        refine (lex_tm tt vs _ htt (he.on hbw5) HVS).mono ?_
        rintro e w6 ⟨⟨va, vc, rfl, hv6⟩, hb6⟩
        have hl6 := (hl5.on hb6).on (box_on w6 (.cells #[.int .i64 0, .int .i64 0] 25))
        have hk6 := (hk5.on hb6).on (box_on w6 (.cells #[.int .i64 0, .int .i64 0] 25))
        have hv7 := hv6.on (box_on w6 (.cells #[.int .i64 0, .int .i64 0] 25))
        have hbw6 := alloc_on (bt hbw5 hb6) (.cells #[.int .i64 0, .int .i64 0] 25)
        have e1 : ((us.length : Int) != (ts.length : Int)) = false := by rw [hul]; simp
        have e2 : ((vs.length : Int) != (ts.length : Int)) = false := by rw [hvl]; simp
        clear hl5 hk5 hv6 hb6 hbw5 hbd
        go_wp2_with fail
        generalize w6.alloc (.cells #[.int .i64 0, .int .i64 0] 25) = W6 at hl6 hk6 hv7 hbw6 ⊢
        go_wp2_with fail
        go_loopw [18] (fun i wr => ∃ k : Nat, k ≤ ts.length ∧ i = .int .i64 k ∧ (∃ d, wr = W6.drewN d)) (fun i _ => ts.length - (intOf i).toNat)
        case atStart => exact ⟨0, Nat.zero_le _, rfl, 0, rfl⟩
        case round =>
          obtain ⟨k, hk, rfl, d, rfl⟩ := hrel
          by_cases hlt : k < ts.length
          · have l2 : decide ((k : Int) < (ts.length : Int)) = true := decide_eq_true (by omega)
            have x1 : (k : Int) < (ts.length : Int) := by omega
            have x2 : (k : Int) < (us.length : Int) := by omega
            have x3 : (k : Int) < (vs.length : Int) := by omega
            have q1 := kt_same (unhide HKU) jj.data.toList S k (by omega) hlt
            have q2 := kt_same (unhide HKV) tt.data.toList S k (by omega) hlt
            obtain ⟨b, o, hb0, hbl, c0, c1, c2, c3⟩ := hl6.row.up (i := k) (by rw [List.length_map]; exact hlt)
            obtain ⟨b', o', hb1, hbl', c0', c1', c2', c3'⟩ := hk6.row.up (i := k) (by rw [List.length_map]; omega)
            obtain ⟨b'', o'', hb2, hbl'', c0'', c1'', c2'', c3''⟩ := hv7.row.up (i := k) (by rw [List.length_map]; omega)
            subst hb0
            subst hb1
            subst hb2
            clear c2 c3 c2' c3' c2'' c3''
            rw [List.getElem_map] at c0 c1 c0' c1' c0'' c1''
            rw [q1.1] at c0'
            rw [q1.2] at c1'
            rw [q2.1] at c0''
            rw [q2.2] at c1''
            clear q1 q2
            generalize (tm S ts[k]).1 = kk at c0 c0' c0''
            generalize (tm S ts[k]).2.1 = xx at c1 c1' c1''
            go_wp2_with fail
            go_quiet (fail)
            go_wp2_with fail
            go_roundw
            case rel => exact ⟨k + 1, by omega, by go_num, d + nq, by simp⟩
            case measure => simp [intOf]; omega
          · have l2 : decide ((k : Int) < (ts.length : Int)) = false := decide_eq_false (by omega)
            have hbd : Below W6.heap.size W6 (W6.drewN d) := below_drewN (Below.refl _ _) d
            have hbw7 := bt hbw6 hbd
            go_wp2_with (go_at_call 12; refine (wakes_any _ (he.on hbw7)).mono ?_; rintro e w8 ⟨rfl, hb8⟩)
            go_ret
            exact ⟨rfl, bt hbw7 hb8⟩
end Go.Proofs.YtaapeleoiclplaaDoor

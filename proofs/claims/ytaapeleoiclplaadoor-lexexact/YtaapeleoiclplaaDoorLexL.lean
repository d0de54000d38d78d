/- What the document's own function Lex answers. -/
import Derived.Test.YtaapeleoiclplaaDoorLexK
import Derived.Test.YtaapeleoiclplaaDoorLexH
namespace Go.Proofs.YtaapeleoiclplaaDoor
open Go.RowKit
open V

theorem OwnT.ne' {w : World} {B b : Nat} {v : Value} {xs : List Tm} (h : OwnT w B v xs) (hb : b < B) : v.ownBlock ≠ some b := fun e => by have := (h.lt b e).1; omega
theorem ext_mid (s : ByteArray) (q n : Nat) : (s.extract q (q + n)).data.toList = (s.data.toList.drop q).take n := by
  rw [Lib.extract_data]; congr 1; omega
theorem ext_mid_size (s : ByteArray) (q n : Nat) (h : q + n ≤ s.size) : (s.extract q (q + n)).size = n := by rw [ByteArray.size_extract]; omega
theorem sign_mark {c : UInt8} {r : List UInt8} {k : Int} {n : Nat} (h : signL (c :: r) = some (k, n)) (h5 : k = 5) : Mark ((c :: r).take n) := by
  subst h5
  rw [signL_cons] at h
  by_cases h1 : letB c = true
  · rw [if_pos h1] at h
    have := (Prod.mk.inj (Option.some.inj h)).1
    split at this <;> cases this
  rw [if_neg h1] at h
  by_cases h2 : (digC c || (c == 45 && headB digC r)) = true
  · rw [if_pos h2] at h
    have := (Prod.mk.inj (Option.some.inj h)).1
    cases this
  rw [if_neg h2] at h
  by_cases h3 : c = 34
  · rw [if_pos h3] at h
    simp only [Option.map_eq_some_iff] at h
    obtain ⟨m, hm, e⟩ := h
    cases (Prod.mk.inj e).1
  rw [if_neg h3] at h
  by_cases h4 : headB (twoB c) r = true
  · rw [if_pos h4] at h
    have := (Prod.mk.inj (Option.some.inj h)).2
    subst this
    cases r with
    | nil => cases h4
    | cons d r =>
      right
      have h4' : twoB c d = true := h4
      simp only [twoB, Bool.or_eq_true, Bool.and_eq_true, beq_iff_eq] at h4'
      rcases h4' with ((⟨rfl, rfl⟩ | ⟨rfl, rfl⟩) | ⟨rfl, rfl⟩) | ⟨rfl, rfl⟩ <;> simp
  rw [if_neg h4] at h
  by_cases h6 : singB c = true
  · rw [if_pos h6] at h
    have := (Prod.mk.inj (Option.some.inj h)).2
    subst this
    exact Or.inl ⟨c, rfl, h6⟩
  · rw [if_neg h6] at h; cases h
theorem signL_kind {l : List UInt8} {k : Int} {n : Nat} (h : signL l = some (k, n)) : k = 1 ∨ k = 2 ∨ k = 3 ∨ k = 4 ∨ k = 5 := by
  have := signP_kind (l := l)
  rw [signP_some h] at this
  exact this
theorem refSign_q (s : ByteArray) (k : Int) (n : Nat) (w : World) (hs : s.size ≤ 20000) (h0 : 0 < s.size) (H : Hid (signR s.data.toList = (k, n))) :
    Calls Tryd.prog 19 #[.string s] w fun e w' => e = .returned (.tuple #[.int .i64 k, .int .i64 n]) ∧ w' = w := by
  have := refSign_any s w hs h0
  rw [unhide H] at this
  exact this
theorem wrap_small (x : Int) (h0 : 0 ≤ x) (h1 : x ≤ 1000000) : IntKind.i64.wrap x = x := by
  simp [IntKind.wrap, IntKind.bits, IntKind.signed]; omega
theorem blank_or (c : UInt8) : blankB c = (((c.toNat : Int) == 32) || ((c.toNat : Int) == 9) || ((c.toNat : Int) == 13) || ((c.toNat : Int) == 10)) := by
  have h1 := byte_eqI c 32 (by decide)
  have h2 := byte_eqI c 9 (by decide)
  have h3 := byte_eqI c 13 (by decide)
  have h4 := byte_eqI c 10 (by decide)
  simp only [blankB]
  rw [show ((c.toNat : Int) == 32) = _ from h1, show ((c.toNat : Int) == 9) = _ from h2, show ((c.toNat : Int) == 13) = _ from h3, show ((c.toNat : Int) == 10) = _ from h4]
  rfl

set_option maxHeartbeats 16000000 in
set_option maxRecDepth 100000 in
theorem refLex_any (s : ByteArray) (w : World) (hs : s.size ≤ 20000) :
    Calls Tryd.prog 9 #[.string s] w fun e w' => LexRes s.data.toList w.heap.size e w' ∧ Below w.heap.size w w' := by
  have d0 : decide (20000 < (s.size : Int)) = false := decide_eq_false (by omega)
  obtain ⟨S, HS⟩ : ∃ S, Hid (s.data.toList = S) := ⟨_, hide rfl⟩
  have HL0 : Hid (S.length = s.size) := hide (by rw [← unhide HS]; simp)
  go_enter Tryd.func9, Tryd.ntmps9
  go_wp2_with fail
  have hr0 := ((PB.new w 0 0).alloc (.cells #[.int .i64 0, .int .i64 0] 25)).alloc (.cells #[.int .i64 1, .int .i64 1] 25)
  have hn0 := (PB.new (w.alloc (.cells #[.int .i64 0, .int .i64 0] 25)) 0 0).alloc (.cells #[.int .i64 1, .int .i64 1] 25)
  have hp0 := PB.new ((w.alloc (.cells #[.int .i64 0, .int .i64 0] 25)).alloc (.cells #[.int .i64 0, .int .i64 0] 25)) 1 1
  rw [show (w.alloc (.cells #[.int .i64 0, .int .i64 0] 25)).heap.size = w.heap.size + 1 by simp] at hn0
  rw [show ((w.alloc (.cells #[.int .i64 0, .int .i64 0] 25)).alloc (.cells #[.int .i64 0, .int .i64 0] 25)).heap.size = w.heap.size + 1 + 1 by simp] at hp0
  have hb0 : Below w.heap.size w (((w.alloc (.cells #[.int .i64 0, .int .i64 0] 25)).alloc (.cells #[.int .i64 0, .int .i64 0] 25)).alloc (.cells #[.int .i64 1, .int .i64 1] 25)) := (((Below.refl _ _).alloc (Nat.le_refl _) _).alloc (by simp) _).alloc (by simp; omega) _
  generalize ((w.alloc (.cells #[.int .i64 0, .int .i64 0] 25)).alloc (.cells #[.int .i64 0, .int .i64 0] 25)).alloc (.cells #[.int .i64 1, .int .i64 1] 25) = W at hr0 hn0 hp0 hb0 ⊢
  obtain ⟨b2, hb2⟩ : ∃ b2, w.heap.size + 1 + 1 = b2 := ⟨_, rfl⟩
  obtain ⟨b1, hb1⟩ : ∃ b1, w.heap.size + 1 = b1 := ⟨_, rfl⟩
  rw [hb2] at hp0 ⊢
  rw [hb1] at hn0 ⊢
  have le2 : w.heap.size ≤ b2 := by omega
  have n02 : w.heap.size ≠ b2 := by omega
  have n12 : b1 ≠ b2 := by omega
  have lt2 : w.heap.size < b2 + 1 := by omega
  have lt3 : b1 < b2 + 1 := by omega
  clear hb1 hb2
  go_loopw [6, 8] (fun v i wr => ∃ (q : Nat) (acc : List Tk), i = .int .i64 q ∧ q ≤ s.size ∧ OwnT wr (b2 + 1) v (acc.map (tm S)) ∧ acc.length ≤ q ∧ Hid (lexA rightK S 0 = preE acc (lexA rightK (S.drop q) q)) ∧ (∃ a b : Nat, Hid (posL S q = (a, b)) ∧ a ≤ 20001 ∧ b ≤ 20001 ∧ PB wr (b2) a b) ∧ PB wr w.heap.size 0 0 ∧ PB wr (b1) 0 0 ∧ Below w.heap.size w wr) (fun _ i _ => s.size - (intOf i).toNat)
  case atStart => exact ⟨0, [], rfl, by omega, ownT_nil _ _, by simp, hide (by rw [pre_nil]; rfl), ⟨1, 1, hide (posL_zero S), by omega, by omega, hp0⟩, hr0, hn0, hb0⟩
  case round =>
    obtain ⟨q, acc, rfl, hq, hown, hacc, HL, ⟨a, b, HP, ha, hb, hp⟩, hr, hn, hbw⟩ := hrel
    clear hp0 hb0 hr0 hn0
    by_cases hlt : q < s.size
    · have lt1 : decide ((q : Int) < (s.size : Int)) = true := decide_eq_true (by omega)
      have HD : Hid (S.drop q = s[q] :: S.drop (q + 1)) := hide (by rw [← unhide HS]; exact drop_cons s q hlt)
      cases hbl : blankB s[q]
      · have hbo := blank_or s[q]
        rw [hbl] at hbo
        replace hbo := hbo.symm
        simp only [Bool.or_eq_false_iff] at hbo
        obtain ⟨⟨⟨x1, x2⟩, x3⟩, x4⟩ := hbo
        cases c37 : ((s[q].toNat : Int) == 37)
        · have hne : s[q] ≠ 37 := by
            intro e
            rw [e] at c37
            exact absurd c37 (by decide)
          have hbz : blankN (s[q] :: S.drop (q + 1)) = 0 := by
            unfold blankN
            rw [if_neg (by simp [headB, hne]), List.takeWhile_cons, if_neg (by rw [hbl]; decide)]; rfl
          have HZ := hide hbz
          have htl := ext_drop s q
          rw [unhide HS] at htl
          have HTL := hide htl
          have hz0s := ext_size' s q
          have hz1 : 0 < (s.extract q s.size).size := by omega
          have hz2 : (s.extract q s.size).size ≤ 20000 := by omega
          have iq : (q : Int) ≤ (s.size : Int) := by omega
          clear htl hz0s hbz hne
          cases hsg : signL (S.drop q) with
          | none =>
            have HSg : Hid (signR (s.extract q s.size).data.toList = (0, 0)) := hide (by rw [unhide HTL]; exact signR_none hsg)
            have HR : Hid (lexA rightK S 0 = .error q) := by
              show _ = _
              rw [unhide HL, unhide HD, wrong_error (unhide HZ) (fun k' n' h => by rw [← unhide HD, hsg] at h; cases h)]; rfl
            clear hsg
            go_wp2_with (go_at_call 19; refine (refSign_q _ 0 0 _ hz2 hz1 HSg).mono ?_; rintro e w9 ⟨rfl, hw9⟩; subst w9)
            obtain ⟨p0, p1, q0, q1⟩ : _ ∧ _ ∧ _ ∧ _ := ⟨hp.c0, hp.c1, hp.f0, hp.f1⟩
            obtain ⟨r0, r1, s0, s1⟩ : _ ∧ _ ∧ _ ∧ _ := ⟨hr.c0, hr.c1, hr.f0, hr.f1⟩
            go_region
            all_goals
              go_wp2_with fail
              have r9 := ((hr.set0 a).set1 b).drew
              refine bodyPost_ret (v := .tuple #[.slice none 0 0, .agg #[.int .i64 a, .int .i64 b], .int .i64 6]) (by simp [results, Tryd.results9, go_sem, r9.c0, r9.c1]) rfl ⟨?_, ?_⟩
              · rw [unhide HS]
                exact LexRes.err (unhide HR) (by rw [unhide HP]) (by rw [unhide HP])
              · exact ((hbw.setCell (p := ⟨w.heap.size, 0, none⟩) (Nat.le_refl _) _).setCell (p := ⟨w.heap.size, 1, none⟩) (Nat.le_refl _) _).drew
          | some kn =>
            obtain ⟨k, n⟩ := kn
            have HSg : Hid (signR (s.extract q s.size).data.toList = (k, n)) := hide (by rw [unhide HTL]; exact signR_some hsg)
            have hn1 := signL_pos hsg
            have hnl : q + n ≤ s.size := by
              have := signL_le hsg
              rw [List.length_drop, unhide HL0] at this; omega
            have HK := hide (signL_kind hsg)
            have k0 : ((k : Int) == 0) = false := by
              rw [beq_eq_false_iff_ne]
              rcases unhide HK with e | e | e | e | e <;> omega
            have hmx := ext_mid s q n
            rw [unhide HS] at hmx
            have HMX := hide hmx
            have H5 : Hid (k = 5 → Mark (s.extract q (q + n)).data.toList) := hide (fun h => by
              rw [unhide HMX, unhide HD]
              rw [unhide HD] at hsg
              exact sign_mark hsg h)
            have hms : (s.extract q (q + n)).size ≤ 20000 := by rw [ext_mid_size s q n hnl]; omega
            have hle' : (q : Int) + (n : Int) ≤ (s.size : Int) := by omega
            cases hrk : rightK k ((S.drop q).take n) with
            | false =>
              have HRK : Hid (rightK k (s.extract q (q + n)).data.toList = false) := hide (by rw [unhide HMX]; exact hrk)
              have HR : Hid (lexA rightK S 0 = .error q) := by
                show _ = _
                rw [unhide HL, unhide HD, wrong_error (unhide HZ) (fun k' n' h => by rw [← unhide HD, hsg] at h; obtain ⟨rfl, rfl⟩ := Prod.mk.inj (Option.some.inj h); rw [← unhide HD]; exact hrk)]; rfl
              clear hsg hrk hmx
              go_wp2_with (first
                | (go_at_call 19; refine (refSign_q _ k n _ hz2 hz1 HSg).mono ?_; rintro e w9 ⟨rfl, hw9⟩; subst w9)
                | (go_at_call 20; refine (refRight_any k _ false _ hms HK H5 HRK).mono ?_; rintro e w9 ⟨rfl, hw9⟩; subst w9))
              obtain ⟨p0, p1, q0, q1⟩ : _ ∧ _ ∧ _ ∧ _ := ⟨hp.c0, hp.c1, hp.f0, hp.f1⟩
              obtain ⟨r0, r1, s0, s1⟩ : _ ∧ _ ∧ _ ∧ _ := ⟨hr.c0, hr.c1, hr.f0, hr.f1⟩
              go_region
              all_goals
                go_wp2_with fail
                have r9 := ((hr.set0 a).set1 b).drew
                refine bodyPost_ret (v := .tuple #[.slice none 0 0, .agg #[.int .i64 a, .int .i64 b], .int .i64 6]) (by simp [results, Tryd.results9, go_sem, r9.c0, r9.c1]) rfl ⟨?_, ?_⟩
                · rw [unhide HS]
                  exact LexRes.err (unhide HR) (by rw [unhide HP]) (by rw [unhide HP])
                · exact ((hbw.setCell (p := ⟨w.heap.size, 0, none⟩) (Nat.le_refl _) _).setCell (p := ⟨w.heap.size, 1, none⟩) (Nat.le_refl _) _).drew
            | true =>
              have HRK : Hid (rightK k (s.extract q (q + n)).data.toList = true) := hide (by rw [unhide HMX]; exact hrk)
              have HLX : Hid (lexA rightK S 0 = preE (acc ++ [(k, (s.extract q (q + n)).data.toList, q)]) (lexA rightK (S.drop (q + n)) (q + n))) := by
                show _ = _
                rw [unhide HD] at hsg hrk
                rw [unhide HL, unhide HD, right_ok (unhide HZ) hsg hrk, pre_pre, ← unhide HD, List.drop_drop, unhide HMX]
              have HU : Hid ((acc ++ [(k, (s.extract q (q + n)).data.toList, q)]).map (tm S) = acc.map (tm S) ++ [(k, s.extract q (q + n), (a : Int), (b : Int))]) := by
                show _ = _
                rw [List.map_append]
                simp only [List.map_cons, List.map_nil, tm]
                rw [unhide HP, str_of]
              clear hsg hrk hmx
              obtain ⟨i0, hi, hz0, hz1', hz2'⟩ := info_parts infoT
              have iq0 : (0 : Int) ≤ (q : Int) := by omega
              have iqn : (q : Int) ≤ (q : Int) + (n : Int) := by omega
              have iqn0 : (0 : Int) ≤ (q : Int) + (n : Int) := by omega
              have htn : ((q : Int) + (n : Int)).toNat = q + n := by omega
              have hwr := wrap_small ((q : Int) + (n : Int)) (by omega) (by omega)
              have hal : (acc.map (tm S)).length ≤ 20000 := by rw [List.length_map]; omega
              go_wp2_with (first
                | (go_at_call 19; refine (refSign_q _ k n _ hz2 hz1 HSg).mono ?_; rintro e w9 ⟨rfl, hw9⟩; subst w9)
                | (go_at_call 20; refine (refRight_any k _ true _ hms HK H5 HRK).mono ?_; rintro e w9 ⟨rfl, hw9⟩; subst w9))
              obtain ⟨p0, p1, q0, q1⟩ : _ ∧ _ ∧ _ ∧ _ := ⟨hp.c0, hp.c1, hp.f0, hp.f1⟩
              have hsw : b2 < wr.heap.size := hp.lt
              have hs2 := ownT_alloc hown.drew (bxT (k, s.extract q (q + n), (a : Int), (b : Int)))
              have hps2 := hp.drew.alloc (bxT (k, s.extract q (q + n), (a : Int), (b : Int)))
              have hrs2 := hr.drew.alloc (bxT (k, s.extract q (q + n), (a : Int), (b : Int)))
              have hns2 := hn.drew.alloc (bxT (k, s.extract q (q + n), (a : Int), (b : Int)))
              have hcv2 := hide (cells_t (heap_alloc_new wr.drew (bxT (k, s.extract q (q + n), (a : Int), (b : Int)))))
              have hsz2 : b2 + 1 ≤ (wr.drew.alloc (bxT (k, s.extract q (q + n), (a : Int), (b : Int)))).heap.size := (by simp; omega)
              go_region_held3 (fun w' => w'.cell? ⟨b2, 0, none⟩ = some (.int .i64 a) ∧ w'.cell? ⟨b2, 1, none⟩ = some (.int .i64 b)) (go_keep) (first
                | (refine step_append_wide (by rfl) _ _ 22 (by rfl) (b2 + 1) 30 i0 (.agg #[.int .i64 0, .string ⟨#[]⟩, .int .i64 0, .int .i64 0]) 4 40 Tryd.underlying22 hi hz0 hz1' hz2' (by rfl) (by decide) _ _ _ (by rfl) hs2 ⟨wr.drew.heap.size, 0, none⟩ 1 1 (flatT [(k, s.extract q (q + n), (a : Int), (b : Int))]) (by rfl) (by rfl) (unhide hcv2) (flatT_oneCell _) (by unfold maxLen; omega) (by omega) hsz2 ?_; intro v' w3 hown3 hgrow hnil3; have hp3 := hps2.grown hgrow (OwnT.ne' hs2 (by omega)); have hr3 := hrs2.grown hgrow (OwnT.ne' hs2 lt2); have hn3 := hns2.grown hgrow (OwnT.ne' hs2 lt3); have z0 := hp3.c0; have z1 := hp3.c1))
              all_goals
                have hbw3 : Below w.heap.size w w3 := ((hbw.drew).alloc (by show w.heap.size ≤ wr.heap.size; omega) _).grown hgrow (Nat.le_trans (Nat.le_of_lt lt2) hsz2) (fun m hm => by have := (hs2.lt m hm).1; omega)
                have hown3' : OwnT w3 (b2 + 1) v' ((acc ++ [(k, (s.extract q (q + n)).data.toList, q)]).map (tm S)) := by rw [unhide HU]; exact OwnT.more hown3 rfl
                clear hown3 hgrow hnil3 z0 z1 hs2 hps2 hrs2 hns2 hcv2 hsz2 p0 p1 q0 q1 hi hz0 hz1' hz2' hown
                go_wp2_with fail
                go_loopw [12] (fun c wk => ∃ (j x y : Nat), j ≤ n ∧ c = .int .i64 j ∧ Hid (posL S (q + j) = (x, y)) ∧ x ≤ 20001 ∧ y ≤ 20001 ∧ PB wk (b2) x y ∧ PB wk w.heap.size 0 0 ∧ PB wk (b1) 0 0 ∧ OwnT wk (b2 + 1) v' ((acc ++ [(k, (s.extract q (q + n)).data.toList, q)]).map (tm S)) ∧ Below w.heap.size w wk) (fun c _ => n - (intOf c).toNat)
                case atStart => exact ⟨0, a, b, Nat.zero_le _, rfl, HP, ha, hb, hp3, hr3, hn3, hown3', hbw3⟩
                case round =>
                  obtain ⟨j, x, y, hj, rfl, HX, hx, hy, kp, kr, kn, kown, kbw⟩ := hrel
                  obtain ⟨p0, p1, q0, q1⟩ : _ ∧ _ ∧ _ ∧ _ := ⟨kp.c0, kp.c1, kp.f0, kp.f1⟩
                  by_cases hjn : j < n
                  · have hin : q + j < s.size := by omega
                    have hin' : (q : Int) + (j : Int) < (s.size : Int) := by omega
                    have hsq := posL_succ (s := S) (q := q + j) (by rw [unhide HL0]; exact hin)
                    rw [unhide HX, show S[q + j]'(by rw [unhide HL0]; exact hin) = s[q + j] from by simp only [← unhide HS]; rfl] at hsq
                    have j1 : decide ((j : Int) < (n : Int)) = true := decide_eq_true (by omega)
                    have hbd := posL_bd S (q + j + 1) (by omega)
                    cases hn : ((s[q + j].toNat : Int) == 10)
                    · have HX' : Hid (posL S (q + (j + 1)) = (x, y + 1)) := hide (by rw [show q + (j + 1) = q + j + 1 by omega, hsq, adv_one hn])
                      rw [hsq, adv_one hn] at hbd
                      clear hsq
                      go_wp2_with fail
                      go_roundw
                      case rel => exact ⟨j + 1, x, y + 1, by omega, by go_num, HX', hx, hbd.2, kp.set1 _, kr.other n02 _ _, kn.other n12 _ _, OwnT.set kown _ _, kbw.setCell (p := ⟨b2, 1, none⟩) le2 _⟩
                      case measure => simp [intOf]; omega
                    · have HX' : Hid (posL S (q + (j + 1)) = (x + 1, 1)) := hide (by rw [show q + (j + 1) = q + j + 1 by omega, hsq, adv_nl hn])
                      rw [hsq, adv_nl hn] at hbd
                      clear hsq
                      go_wp2_with fail
                      go_roundw
                      case rel => exact ⟨j + 1, x + 1, 1, by omega, by go_num, HX', hbd.1, by omega, ((kp.set1 _).set0 _).set1 _, ((kr.other n02 _ _).other n02 _ _).other n02 _ _, ((kn.other n12 _ _).other n12 _ _).other n12 _ _, OwnT.set (OwnT.set (OwnT.set kown _ _) _ _) _ _, ((kbw.setCell (p := ⟨b2, 1, none⟩) le2 _).setCell (p := ⟨b2, 0, none⟩) le2 _).setCell (p := ⟨b2, 1, none⟩) le2 _⟩
                      case measure => simp [intOf]; omega
                  · have j1 : decide ((j : Int) < (n : Int)) = false := decide_eq_false (by omega)
                    have hjn' : n = j := by omega
                    subst hjn'
                    go_wp2_with fail
                    go_roundw
                    case rel => exact ⟨q + n, acc ++ [(k, (s.extract q (q + n)).data.toList, q)], by go_num, by omega, kown, by rw [List.length_append, List.length_singleton]; omega, HLX, ⟨x, y, HX, hx, hy, kp⟩, kr, kn, kbw⟩
                    case measure => simp [intOf]; omega
        · have e37 : s[q] = 37 := UInt8.toNat_inj.1 (by have := beq_iff_eq.1 c37; show s[q].toNat = 37; omega)
          obtain ⟨m, hm⟩ : ∃ m, ((S.drop q).takeWhile (· != 10)).length = m := ⟨_, rfl⟩
          have hm1 : 1 ≤ m := by rw [← hm, unhide HD, e37]; exact comment_pos _
          have hml : m ≤ s.size - q := by
            have := List.Sublist.length_le (List.takeWhile_sublist (· != 10) (l := S.drop q))
            rw [List.length_drop, unhide HL0] at this; omega
          have HLX : Hid (lexA rightK S 0 = preE acc (lexA rightK (S.drop (q + m)) (q + m))) := by
            show _ = _
            have hc : lexA rightK (S.drop q) q = lexA rightK ((S.drop q).drop m) (q + m) := by
              rw [← hm, unhide HD, e37]; exact lexA_comment
            rw [unhide HL, hc, List.drop_drop]
          have HM := hide hm
          have HSL : Hid (∀ k (hk : q + k < s.size), (S.drop q)[k]'(by rw [List.length_drop, unhide HL0]; omega) = s[q + k]) := hide (fun k hk => by
            rw [List.getElem_drop]; simp only [← unhide HS]; rfl)
          have HSZ : Hid ((S.drop q).length = s.size - q) := hide (by rw [List.length_drop, unhide HL0])
          clear hm e37
          go_wp2_with fail
          go_loop [10] (fun c => ∃ j : Nat, c = .int .i64 j ∧ q + j ≤ s.size ∧ Hid (((S.drop q).take j).all (· != 10) = true)) (fun c => s.size - (intOf c).toNat)
          case atStart => exact ⟨0, rfl, by omega, hide rfl⟩
          case round =>
            obtain ⟨j, rfl, hj, HA⟩ := hrel
            by_cases hin : q + j < s.size
            · have hin' : (q : Int) + (j : Int) < (s.size : Int) := by omega
              have i1 : decide ((q : Int) + (j : Int) < (s.size : Int)) = true := decide_eq_true hin'
              have hg := unhide HSL j hin
              have hjl : j < (S.drop q).length := by rw [unhide HSZ]; omega
              cases hnl : ((s[q + j].toNat : Int) == 10)
              · have d1 : ((s[q + j].toNat : Int) != 10) = true := by simp only [bne, hnl]; rfl
                have HA' : Hid (((S.drop q).take (j + 1)).all (· != 10) = true) := hide (by
                  rw [List.take_succ_eq_append_getElem hjl, List.all_append, unhide HA]
                  have hb := byte_eqI s[q + j] 10 (by decide)
                  rw [show ((s[q + j].toNat : Int) == ((10 : Nat) : Int)) = false from hnl] at hb
                  simp only [List.all_cons, List.all_nil, hg, bne]
                  rw [show (s[q + j] == 10) = false from hb.symm]; rfl)
                clear hg hjl hnl
                go_wp2_with fail
                go_round
                case rel => exact ⟨j + 1, by go_num, by omega, HA'⟩
                case measure => simp [intOf]; omega
              · have d1 : ((s[q + j].toNat : Int) != 10) = false := by simp only [bne, hnl]; rfl
                have hjm : m = j := by
                  rw [← unhide HM]
                  refine tw_all hjl (unhide HA) ?_
                  have hb := byte_eqI s[q + j] 10 (by decide)
                  rw [show ((s[q + j].toNat : Int) == ((10 : Nat) : Int)) = true from hnl] at hb
                  rw [hg]; simp only [bne]
                  rw [show (s[q + j] == 10) = true from hb.symm]; rfl
                subst hjm
                clear hg hjl hnl
                go_wp2_with fail
                go_loopw [12] (fun c wk => ∃ (j x y : Nat), j ≤ m ∧ c = .int .i64 j ∧ Hid (posL S (q + j) = (x, y)) ∧ x ≤ 20001 ∧ y ≤ 20001 ∧ PB wk (b2) x y ∧ PB wk w.heap.size 0 0 ∧ PB wk (b1) 0 0 ∧ OwnT wk (b2 + 1) u6 ((acc).map (tm S)) ∧ Below w.heap.size w wk) (fun c _ => m - (intOf c).toNat)
                case atStart => exact ⟨0, a, b, Nat.zero_le _, rfl, HP, ha, hb, hp, hr, hn, hown, hbw⟩
                case round =>
                  obtain ⟨j, x, y, hj, rfl, HX, hx, hy, kp, kr, kn, kown, kbw⟩ := hrel
                  obtain ⟨p0, p1, q0, q1⟩ : _ ∧ _ ∧ _ ∧ _ := ⟨kp.c0, kp.c1, kp.f0, kp.f1⟩
                  by_cases hjn : j < m
                  · have hin : q + j < s.size := by omega
                    have hin' : (q : Int) + (j : Int) < (s.size : Int) := by omega
                    have hsq := posL_succ (s := S) (q := q + j) (by rw [unhide HL0]; exact hin)
                    rw [unhide HX, show S[q + j]'(by rw [unhide HL0]; exact hin) = s[q + j] from by simp only [← unhide HS]; rfl] at hsq
                    have j1 : decide ((j : Int) < (m : Int)) = true := decide_eq_true (by omega)
                    have hbd := posL_bd S (q + j + 1) (by omega)
                    cases hn : ((s[q + j].toNat : Int) == 10)
                    · have HX' : Hid (posL S (q + (j + 1)) = (x, y + 1)) := hide (by rw [show q + (j + 1) = q + j + 1 by omega, hsq, adv_one hn])
                      rw [hsq, adv_one hn] at hbd
                      clear hsq
                      go_wp2_with fail
                      go_roundw
                      case rel => exact ⟨j + 1, x, y + 1, by omega, by go_num, HX', hx, hbd.2, kp.set1 _, kr.other n02 _ _, kn.other n12 _ _, OwnT.set kown _ _, kbw.setCell (p := ⟨b2, 1, none⟩) le2 _⟩
                      case measure => simp [intOf]; omega
                    · have HX' : Hid (posL S (q + (j + 1)) = (x + 1, 1)) := hide (by rw [show q + (j + 1) = q + j + 1 by omega, hsq, adv_nl hn])
                      rw [hsq, adv_nl hn] at hbd
                      clear hsq
                      go_wp2_with fail
                      go_roundw
                      case rel => exact ⟨j + 1, x + 1, 1, by omega, by go_num, HX', hbd.1, by omega, ((kp.set1 _).set0 _).set1 _, ((kr.other n02 _ _).other n02 _ _).other n02 _ _, ((kn.other n12 _ _).other n12 _ _).other n12 _ _, OwnT.set (OwnT.set (OwnT.set kown _ _) _ _) _ _, ((kbw.setCell (p := ⟨b2, 1, none⟩) le2 _).setCell (p := ⟨b2, 0, none⟩) le2 _).setCell (p := ⟨b2, 1, none⟩) le2 _⟩
                      case measure => simp [intOf]; omega
                  · have j1 : decide ((j : Int) < (m : Int)) = false := decide_eq_false (by omega)
                    have hjn' : m = j := by omega
                    subst hjn'
                    go_wp2_with fail
                    go_roundw
                    case rel => exact ⟨q + m, acc, by go_num, by omega, kown, by omega, HLX, ⟨x, y, HX, hx, hy, kp⟩, kr, kn, kbw⟩
                    case measure => simp [intOf]; omega
            · have i1 : decide ((q : Int) + (j : Int) < (s.size : Int)) = false := decide_eq_false (by omega)
              have hjm : m = j := by
                rw [← unhide HM]
                have h := unhide HA
                rw [List.take_of_length_le (by rw [unhide HSZ]; omega)] at h
                rw [tw_whole h, unhide HSZ]; omega
              subst hjm
              go_wp2_with fail
              go_loopw [12] (fun c wk => ∃ (j x y : Nat), j ≤ m ∧ c = .int .i64 j ∧ Hid (posL S (q + j) = (x, y)) ∧ x ≤ 20001 ∧ y ≤ 20001 ∧ PB wk (b2) x y ∧ PB wk w.heap.size 0 0 ∧ PB wk (b1) 0 0 ∧ OwnT wk (b2 + 1) u6 ((acc).map (tm S)) ∧ Below w.heap.size w wk) (fun c _ => m - (intOf c).toNat)
              case atStart => exact ⟨0, a, b, Nat.zero_le _, rfl, HP, ha, hb, hp, hr, hn, hown, hbw⟩
              case round =>
                obtain ⟨j, x, y, hj, rfl, HX, hx, hy, kp, kr, kn, kown, kbw⟩ := hrel
                obtain ⟨p0, p1, q0, q1⟩ : _ ∧ _ ∧ _ ∧ _ := ⟨kp.c0, kp.c1, kp.f0, kp.f1⟩
                by_cases hjn : j < m
                · have hin : q + j < s.size := by omega
                  have hin' : (q : Int) + (j : Int) < (s.size : Int) := by omega
                  have hsq := posL_succ (s := S) (q := q + j) (by rw [unhide HL0]; exact hin)
                  rw [unhide HX, show S[q + j]'(by rw [unhide HL0]; exact hin) = s[q + j] from by simp only [← unhide HS]; rfl] at hsq
                  have j1 : decide ((j : Int) < (m : Int)) = true := decide_eq_true (by omega)
                  have hbd := posL_bd S (q + j + 1) (by omega)
                  cases hn : ((s[q + j].toNat : Int) == 10)
                  · have HX' : Hid (posL S (q + (j + 1)) = (x, y + 1)) := hide (by rw [show q + (j + 1) = q + j + 1 by omega, hsq, adv_one hn])
                    rw [hsq, adv_one hn] at hbd
                    clear hsq
                    go_wp2_with fail
                    go_roundw
                    case rel => exact ⟨j + 1, x, y + 1, by omega, by go_num, HX', hx, hbd.2, kp.set1 _, kr.other n02 _ _, kn.other n12 _ _, OwnT.set kown _ _, kbw.setCell (p := ⟨b2, 1, none⟩) le2 _⟩
                    case measure => simp [intOf]; omega
                  · have HX' : Hid (posL S (q + (j + 1)) = (x + 1, 1)) := hide (by rw [show q + (j + 1) = q + j + 1 by omega, hsq, adv_nl hn])
                    rw [hsq, adv_nl hn] at hbd
                    clear hsq
                    go_wp2_with fail
                    go_roundw
                    case rel => exact ⟨j + 1, x + 1, 1, by omega, by go_num, HX', hbd.1, by omega, ((kp.set1 _).set0 _).set1 _, ((kr.other n02 _ _).other n02 _ _).other n02 _ _, ((kn.other n12 _ _).other n12 _ _).other n12 _ _, OwnT.set (OwnT.set (OwnT.set kown _ _) _ _) _ _, ((kbw.setCell (p := ⟨b2, 1, none⟩) le2 _).setCell (p := ⟨b2, 0, none⟩) le2 _).setCell (p := ⟨b2, 1, none⟩) le2 _⟩
                    case measure => simp [intOf]; omega
                · have j1 : decide ((j : Int) < (m : Int)) = false := decide_eq_false (by omega)
                  have hjn' : m = j := by omega
                  subst hjn'
                  go_wp2_with fail
                  go_roundw
                  case rel => exact ⟨q + m, acc, by go_num, by omega, kown, by omega, HLX, ⟨x, y, HX, hx, hy, kp⟩, kr, kn, kbw⟩
                  case measure => simp [intOf]; omega
      · have HLX : Hid (lexA rightK S 0 = preE acc (lexA rightK (S.drop (q + 1)) (q + 1))) := by
          show _ = _
          rw [unhide HL, unhide HD, lexA_blank hbl]
        have hbo := blank_or s[q]
        rw [hbl] at hbo
        replace hbo := hbo.symm
        have HB : Hid ((((s[q].toNat : Int) == 32) || ((s[q].toNat : Int) == 9) || ((s[q].toNat : Int) == 13) || ((s[q].toNat : Int) == 10)) = true) := hbo
        clear hbo
        cases x1 : ((s[q].toNat : Int) == 32)
        · cases x2 : ((s[q].toNat : Int) == 9)
          · cases x3 : ((s[q].toNat : Int) == 13)
            · have x4 : ((s[q].toNat : Int) == 10) = true := by have := unhide HB; rw [x1, x2, x3] at this; exact this
              go_wp2_with fail
              go_loopw [12] (fun c wk => ∃ (j x y : Nat), j ≤ 1 ∧ c = .int .i64 j ∧ Hid (posL S (q + j) = (x, y)) ∧ x ≤ 20001 ∧ y ≤ 20001 ∧ PB wk (b2) x y ∧ PB wk w.heap.size 0 0 ∧ PB wk (b1) 0 0 ∧ OwnT wk (b2 + 1) u6 ((acc).map (tm S)) ∧ Below w.heap.size w wk) (fun c _ => 1 - (intOf c).toNat)
              case atStart => exact ⟨0, a, b, Nat.zero_le _, rfl, HP, ha, hb, hp, hr, hn, hown, hbw⟩
              case round =>
                obtain ⟨j, x, y, hj, rfl, HX, hx, hy, kp, kr, kn, kown, kbw⟩ := hrel
                obtain ⟨p0, p1, q0, q1⟩ : _ ∧ _ ∧ _ ∧ _ := ⟨kp.c0, kp.c1, kp.f0, kp.f1⟩
                by_cases hjn : j < 1
                · have hin : q + j < s.size := by omega
                  have hin' : (q : Int) + (j : Int) < (s.size : Int) := by omega
                  have hsq := posL_succ (s := S) (q := q + j) (by rw [unhide HL0]; exact hin)
                  rw [unhide HX, show S[q + j]'(by rw [unhide HL0]; exact hin) = s[q + j] from by simp only [← unhide HS]; rfl] at hsq
                  have j1 : decide ((j : Int) < (1 : Int)) = true := decide_eq_true (by omega)
                  have hbd := posL_bd S (q + j + 1) (by omega)
                  cases hn : ((s[q + j].toNat : Int) == 10)
                  · have HX' : Hid (posL S (q + (j + 1)) = (x, y + 1)) := hide (by rw [show q + (j + 1) = q + j + 1 by omega, hsq, adv_one hn])
                    rw [hsq, adv_one hn] at hbd
                    clear hsq
                    go_wp2_with fail
                    go_roundw
                    case rel => exact ⟨j + 1, x, y + 1, by omega, by go_num, HX', hx, hbd.2, kp.set1 _, kr.other n02 _ _, kn.other n12 _ _, OwnT.set kown _ _, kbw.setCell (p := ⟨b2, 1, none⟩) le2 _⟩
                    case measure => simp [intOf]; omega
                  · have HX' : Hid (posL S (q + (j + 1)) = (x + 1, 1)) := hide (by rw [show q + (j + 1) = q + j + 1 by omega, hsq, adv_nl hn])
                    rw [hsq, adv_nl hn] at hbd
                    clear hsq
                    go_wp2_with fail
                    go_roundw
                    case rel => exact ⟨j + 1, x + 1, 1, by omega, by go_num, HX', hbd.1, by omega, ((kp.set1 _).set0 _).set1 _, ((kr.other n02 _ _).other n02 _ _).other n02 _ _, ((kn.other n12 _ _).other n12 _ _).other n12 _ _, OwnT.set (OwnT.set (OwnT.set kown _ _) _ _) _ _, ((kbw.setCell (p := ⟨b2, 1, none⟩) le2 _).setCell (p := ⟨b2, 0, none⟩) le2 _).setCell (p := ⟨b2, 1, none⟩) le2 _⟩
                    case measure => simp [intOf]; omega
                · have j1 : decide ((j : Int) < (1 : Int)) = false := decide_eq_false (by omega)
                  have hjn' : 1 = j := by omega
                  subst hjn'
                  go_wp2_with fail
                  go_roundw
                  case rel => exact ⟨q + 1, acc, by go_num, by omega, kown, by omega, HLX, ⟨x, y, HX, hx, hy, kp⟩, kr, kn, kbw⟩
                  case measure => simp [intOf]; omega
            · go_wp2_with fail
              go_loopw [12] (fun c wk => ∃ (j x y : Nat), j ≤ 1 ∧ c = .int .i64 j ∧ Hid (posL S (q + j) = (x, y)) ∧ x ≤ 20001 ∧ y ≤ 20001 ∧ PB wk (b2) x y ∧ PB wk w.heap.size 0 0 ∧ PB wk (b1) 0 0 ∧ OwnT wk (b2 + 1) u6 ((acc).map (tm S)) ∧ Below w.heap.size w wk) (fun c _ => 1 - (intOf c).toNat)
              case atStart => exact ⟨0, a, b, Nat.zero_le _, rfl, HP, ha, hb, hp, hr, hn, hown, hbw⟩
              case round =>
                obtain ⟨j, x, y, hj, rfl, HX, hx, hy, kp, kr, kn, kown, kbw⟩ := hrel
                obtain ⟨p0, p1, q0, q1⟩ : _ ∧ _ ∧ _ ∧ _ := ⟨kp.c0, kp.c1, kp.f0, kp.f1⟩
                by_cases hjn : j < 1
                · have hin : q + j < s.size := by omega
                  have hin' : (q : Int) + (j : Int) < (s.size : Int) := by omega
                  have hsq := posL_succ (s := S) (q := q + j) (by rw [unhide HL0]; exact hin)
                  rw [unhide HX, show S[q + j]'(by rw [unhide HL0]; exact hin) = s[q + j] from by simp only [← unhide HS]; rfl] at hsq
                  have j1 : decide ((j : Int) < (1 : Int)) = true := decide_eq_true (by omega)
                  have hbd := posL_bd S (q + j + 1) (by omega)
                  cases hn : ((s[q + j].toNat : Int) == 10)
                  · have HX' : Hid (posL S (q + (j + 1)) = (x, y + 1)) := hide (by rw [show q + (j + 1) = q + j + 1 by omega, hsq, adv_one hn])
                    rw [hsq, adv_one hn] at hbd
                    clear hsq
                    go_wp2_with fail
                    go_roundw
                    case rel => exact ⟨j + 1, x, y + 1, by omega, by go_num, HX', hx, hbd.2, kp.set1 _, kr.other n02 _ _, kn.other n12 _ _, OwnT.set kown _ _, kbw.setCell (p := ⟨b2, 1, none⟩) le2 _⟩
                    case measure => simp [intOf]; omega
                  · have HX' : Hid (posL S (q + (j + 1)) = (x + 1, 1)) := hide (by rw [show q + (j + 1) = q + j + 1 by omega, hsq, adv_nl hn])
                    rw [hsq, adv_nl hn] at hbd
                    clear hsq
                    go_wp2_with fail
                    go_roundw
                    case rel => exact ⟨j + 1, x + 1, 1, by omega, by go_num, HX', hbd.1, by omega, ((kp.set1 _).set0 _).set1 _, ((kr.other n02 _ _).other n02 _ _).other n02 _ _, ((kn.other n12 _ _).other n12 _ _).other n12 _ _, OwnT.set (OwnT.set (OwnT.set kown _ _) _ _) _ _, ((kbw.setCell (p := ⟨b2, 1, none⟩) le2 _).setCell (p := ⟨b2, 0, none⟩) le2 _).setCell (p := ⟨b2, 1, none⟩) le2 _⟩
                    case measure => simp [intOf]; omega
                · have j1 : decide ((j : Int) < (1 : Int)) = false := decide_eq_false (by omega)
                  have hjn' : 1 = j := by omega
                  subst hjn'
                  go_wp2_with fail
                  go_roundw
                  case rel => exact ⟨q + 1, acc, by go_num, by omega, kown, by omega, HLX, ⟨x, y, HX, hx, hy, kp⟩, kr, kn, kbw⟩
                  case measure => simp [intOf]; omega
          · go_wp2_with fail
            go_loopw [12] (fun c wk => ∃ (j x y : Nat), j ≤ 1 ∧ c = .int .i64 j ∧ Hid (posL S (q + j) = (x, y)) ∧ x ≤ 20001 ∧ y ≤ 20001 ∧ PB wk (b2) x y ∧ PB wk w.heap.size 0 0 ∧ PB wk (b1) 0 0 ∧ OwnT wk (b2 + 1) u6 ((acc).map (tm S)) ∧ Below w.heap.size w wk) (fun c _ => 1 - (intOf c).toNat)
            case atStart => exact ⟨0, a, b, Nat.zero_le _, rfl, HP, ha, hb, hp, hr, hn, hown, hbw⟩
            case round =>
              obtain ⟨j, x, y, hj, rfl, HX, hx, hy, kp, kr, kn, kown, kbw⟩ := hrel
              obtain ⟨p0, p1, q0, q1⟩ : _ ∧ _ ∧ _ ∧ _ := ⟨kp.c0, kp.c1, kp.f0, kp.f1⟩
              by_cases hjn : j < 1
              · have hin : q + j < s.size := by omega
                have hin' : (q : Int) + (j : Int) < (s.size : Int) := by omega
                have hsq := posL_succ (s := S) (q := q + j) (by rw [unhide HL0]; exact hin)
                rw [unhide HX, show S[q + j]'(by rw [unhide HL0]; exact hin) = s[q + j] from by simp only [← unhide HS]; rfl] at hsq
                have j1 : decide ((j : Int) < (1 : Int)) = true := decide_eq_true (by omega)
                have hbd := posL_bd S (q + j + 1) (by omega)
                cases hn : ((s[q + j].toNat : Int) == 10)
                · have HX' : Hid (posL S (q + (j + 1)) = (x, y + 1)) := hide (by rw [show q + (j + 1) = q + j + 1 by omega, hsq, adv_one hn])
                  rw [hsq, adv_one hn] at hbd
                  clear hsq
                  go_wp2_with fail
                  go_roundw
                  case rel => exact ⟨j + 1, x, y + 1, by omega, by go_num, HX', hx, hbd.2, kp.set1 _, kr.other n02 _ _, kn.other n12 _ _, OwnT.set kown _ _, kbw.setCell (p := ⟨b2, 1, none⟩) le2 _⟩
                  case measure => simp [intOf]; omega
                · have HX' : Hid (posL S (q + (j + 1)) = (x + 1, 1)) := hide (by rw [show q + (j + 1) = q + j + 1 by omega, hsq, adv_nl hn])
                  rw [hsq, adv_nl hn] at hbd
                  clear hsq
                  go_wp2_with fail
                  go_roundw
                  case rel => exact ⟨j + 1, x + 1, 1, by omega, by go_num, HX', hbd.1, by omega, ((kp.set1 _).set0 _).set1 _, ((kr.other n02 _ _).other n02 _ _).other n02 _ _, ((kn.other n12 _ _).other n12 _ _).other n12 _ _, OwnT.set (OwnT.set (OwnT.set kown _ _) _ _) _ _, ((kbw.setCell (p := ⟨b2, 1, none⟩) le2 _).setCell (p := ⟨b2, 0, none⟩) le2 _).setCell (p := ⟨b2, 1, none⟩) le2 _⟩
                  case measure => simp [intOf]; omega
              · have j1 : decide ((j : Int) < (1 : Int)) = false := decide_eq_false (by omega)
                have hjn' : 1 = j := by omega
                subst hjn'
                go_wp2_with fail
                go_roundw
                case rel => exact ⟨q + 1, acc, by go_num, by omega, kown, by omega, HLX, ⟨x, y, HX, hx, hy, kp⟩, kr, kn, kbw⟩
                case measure => simp [intOf]; omega
        · go_wp2_with fail
          go_loopw [12] (fun c wk => ∃ (j x y : Nat), j ≤ 1 ∧ c = .int .i64 j ∧ Hid (posL S (q + j) = (x, y)) ∧ x ≤ 20001 ∧ y ≤ 20001 ∧ PB wk (b2) x y ∧ PB wk w.heap.size 0 0 ∧ PB wk (b1) 0 0 ∧ OwnT wk (b2 + 1) u6 ((acc).map (tm S)) ∧ Below w.heap.size w wk) (fun c _ => 1 - (intOf c).toNat)
          case atStart => exact ⟨0, a, b, Nat.zero_le _, rfl, HP, ha, hb, hp, hr, hn, hown, hbw⟩
          case round =>
            obtain ⟨j, x, y, hj, rfl, HX, hx, hy, kp, kr, kn, kown, kbw⟩ := hrel
            obtain ⟨p0, p1, q0, q1⟩ : _ ∧ _ ∧ _ ∧ _ := ⟨kp.c0, kp.c1, kp.f0, kp.f1⟩
            by_cases hjn : j < 1
            · have hin : q + j < s.size := by omega
              have hin' : (q : Int) + (j : Int) < (s.size : Int) := by omega
              have hsq := posL_succ (s := S) (q := q + j) (by rw [unhide HL0]; exact hin)
              rw [unhide HX, show S[q + j]'(by rw [unhide HL0]; exact hin) = s[q + j] from by simp only [← unhide HS]; rfl] at hsq
              have j1 : decide ((j : Int) < (1 : Int)) = true := decide_eq_true (by omega)
              have hbd := posL_bd S (q + j + 1) (by omega)
              cases hn : ((s[q + j].toNat : Int) == 10)
              · have HX' : Hid (posL S (q + (j + 1)) = (x, y + 1)) := hide (by rw [show q + (j + 1) = q + j + 1 by omega, hsq, adv_one hn])
                rw [hsq, adv_one hn] at hbd
                clear hsq
                go_wp2_with fail
                go_roundw
                case rel => exact ⟨j + 1, x, y + 1, by omega, by go_num, HX', hx, hbd.2, kp.set1 _, kr.other n02 _ _, kn.other n12 _ _, OwnT.set kown _ _, kbw.setCell (p := ⟨b2, 1, none⟩) le2 _⟩
                case measure => simp [intOf]; omega
              · have HX' : Hid (posL S (q + (j + 1)) = (x + 1, 1)) := hide (by rw [show q + (j + 1) = q + j + 1 by omega, hsq, adv_nl hn])
                rw [hsq, adv_nl hn] at hbd
                clear hsq
                go_wp2_with fail
                go_roundw
                case rel => exact ⟨j + 1, x + 1, 1, by omega, by go_num, HX', hbd.1, by omega, ((kp.set1 _).set0 _).set1 _, ((kr.other n02 _ _).other n02 _ _).other n02 _ _, ((kn.other n12 _ _).other n12 _ _).other n12 _ _, OwnT.set (OwnT.set (OwnT.set kown _ _) _ _) _ _, ((kbw.setCell (p := ⟨b2, 1, none⟩) le2 _).setCell (p := ⟨b2, 0, none⟩) le2 _).setCell (p := ⟨b2, 1, none⟩) le2 _⟩
                case measure => simp [intOf]; omega
            · have j1 : decide ((j : Int) < (1 : Int)) = false := decide_eq_false (by omega)
              have hjn' : 1 = j := by omega
              subst hjn'
              go_wp2_with fail
              go_roundw
              case rel => exact ⟨q + 1, acc, by go_num, by omega, kown, by omega, HLX, ⟨x, y, HX, hx, hy, kp⟩, kr, kn, kbw⟩
              case measure => simp [intOf]; omega
    · have lt1 : decide ((q : Int) < (s.size : Int)) = false := decide_eq_false (by omega)
      have HR : Hid (lexA rightK S 0 = .ok acc) := by
        show _ = _
        have hl := unhide HL0
        rw [unhide HL, List.drop_eq_nil_of_le (by omega), lexA_nil]
        simp [preE]
      obtain ⟨p0, p1⟩ : _ ∧ _ := ⟨hn.c0, hn.c1⟩
      obtain ⟨r0, r1, s0, s1⟩ : _ ∧ _ ∧ _ ∧ _ := ⟨hr.c0, hr.c1, hr.f0, hr.f1⟩
      go_wp2_with fail
      go_region
      all_goals
        go_wp2_with fail
        have r9 := ((hr.set0 0).set1 0).drew
        obtain ⟨oa, on, oc, rfl, -⟩ := hown.slice
        refine bodyPost_ret (v := .tuple #[.slice oa on oc, .agg #[.int .i64 0, .int .i64 0], .int .i64 0]) (by simp [results, Tryd.results9, go_sem, r9.c0, r9.c1]) rfl ⟨?_, ?_⟩
        · rw [unhide HS]
          refine LexRes.ok (unhide HR) (OwnT.less (C := b2 + 1) ?_ (by omega))
          exact ((hown.other (OwnT.ne' hown lt2) _ _).other (OwnT.ne' (hown.other (OwnT.ne' hown lt2) 0 (.int .i64 0)) lt2) _ _).drew
        · exact ((hbw.setCell (p := ⟨w.heap.size, 0, none⟩) (Nat.le_refl _) _).setCell (p := ⟨w.heap.size, 1, none⟩) (Nat.le_refl _) _).drew
end Go.Proofs.YtaapeleoiclplaaDoor

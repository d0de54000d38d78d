/- What lex.Tokens answers. -/
import Derived.Test.YtaapeleoiclplaaDoorLexG
import Derived.Test.YtaapeleoiclplaaDoorLexW
import Derived.Deep.RegionHeld3
namespace Go.Proofs.YtaapeleoiclplaaDoor
open Go.RowKit
open V

/-- What the reading of signs may answer: the signs in new memory, from block B on; or the place where none begins. -/
def LexRes (S : List UInt8) (B : Nat) (e : Ending) (w : World) : Prop :=
  match lexA rightK S 0 with
  | .ok ts => ∃ a n c, e = .returned (.tuple #[.slice a n c, .agg #[.int .i64 0, .int .i64 0], .int .i64 0]) ∧ OwnT w B (.slice a n c) (ts.map (tm S))
  | .error q => e = .returned (.tuple #[.slice none 0 0, .agg #[.int .i64 (posL S q).1, .int .i64 (posL S q).2], .int .i64 6])
theorem LexRes.ok {S : List UInt8} {B : Nat} {w : World} {ts : List Tk} {v : Value} (h : lexA rightK S 0 = .ok ts) (ho : OwnT w B v (ts.map (tm S))) : LexRes S B (.returned (.tuple #[v, .agg #[.int .i64 0, .int .i64 0], .int .i64 0])) w := by
  unfold LexRes
  rw [h]
  obtain ⟨a, n, c, rfl, -⟩ := ho.slice
  exact ⟨a, n, c, rfl, ho⟩
theorem LexRes.err {S : List UInt8} {B : Nat} {w : World} {q : Nat} {a b : Int} (h : lexA rightK S 0 = .error q) (ha : a = (posL S q).1) (hb : b = (posL S q).2) : LexRes S B (.returned (.tuple #[.slice none 0 0, .agg #[.int .i64 a, .int .i64 b], .int .i64 6])) w := by
  unfold LexRes
  rw [h, ha, hb]

theorem ext_take (t : ByteArray) (n : Nat) : (t.extract 0 n).data.toList = t.data.toList.take n := by
  rw [Lib.extract_data]; simp
theorem ext_drop (t : ByteArray) (n : Nat) : (t.extract n t.size).data.toList = t.data.toList.drop n := by
  rw [Lib.extract_data, List.take_of_length_le (by simp)]
theorem size_list (t : ByteArray) : t.data.toList.length = t.size := by simp
theorem ext_size' (t : ByteArray) (n : Nat) : (t.extract n t.size).size = t.size - n := by rw [ByteArray.size_extract]; omega
theorem ext_size0 (t : ByteArray) (n : Nat) (h : n ≤ t.size) : (t.extract 0 n).size = n := by rw [ByteArray.size_extract]; omega

theorem sign_q (s : ByteArray) (k : Int) (n : Nat) (w : World) (hs : s.size ≤ 20000) (h0 : 0 < s.size) (H : Hid (signP s.data.toList = (k, n))) :
    Calls Tryd.prog 15 #[.string s] w fun e w' => e = .returned (.tuple #[.int .i64 k, .int .i64 n]) ∧ w' = w := by
  have := sign_any s w hs h0
  rw [unhide H] at this
  exact this
theorem right_q (k : Int) (s : ByteArray) (b : Bool) (w : World) (hs : s.size ≤ 20000) (he : Env w) (hk : Hid (k = 1 ∨ k = 2 ∨ k = 3 ∨ k = 4 ∨ k = 5)) (h4 : Hid (k = 4 → ∀ h : 0 < s.size, (s[0].toNat : Int) = 34)) (H : Hid (okK k s.data.toList = b)) :
    Calls Tryd.prog 16 #[.int .i64 k, .string s] w fun e w' => e = .returned (.bool b) ∧ Below w.heap.size w w' := by
  have := right_any k s w hs he (unhide hk) (unhide h4)
  rw [unhide H] at this
  exact this
theorem behind_q (l c l' c' : Nat) (s : ByteArray) (w : World) (hs : s.size ≤ 20000) (hl : l ≤ 40000) (hc : c ≤ 40000) (H : Hid (s.data.toList.foldl adv (l, c) = (l', c'))) :
    Calls Tryd.prog 18 #[.agg #[.int .i64 l, .int .i64 c], .string s] w fun e w' => e = .returned (.agg #[.int .i64 l', .int .i64 c']) ∧ Below w.heap.size w w' := by
  have := behind_any l c s w hs hl hc
  rw [unhide H] at this
  exact this
theorem posL_bd (S : List UInt8) (q : Nat) (h : q ≤ 20000) : (posL S q).1 ≤ 20001 ∧ (posL S q).2 ≤ 20001 := by
  have := posL_one S q
  omega
/-- One piece of the text behind the place. -/
theorem move_on {S : List UInt8} {q n a b : Nat} (hq : q + n ≤ 20000) (H : Hid (posL S q = (a, b))) : ∃ a' b' : Nat, Hid (((S.drop q).take n).foldl adv (a, b) = (a', b')) ∧ Hid (posL S (q + n) = (a', b')) ∧ a' ≤ 20001 ∧ b' ≤ 20001 := by
  have h := posL_add S q n
  rw [unhide H] at h
  have hb := posL_bd S (q + n) hq
  refine ⟨(posL S (q + n)).1, (posL S (q + n)).2, hide h.symm, hide rfl, hb.1, hb.2⟩
theorem head34 {t : ByteArray} {n : Nat} {k : Int} (h0 : 0 < t.size) (hp : signP t.data.toList = (k, n)) : k = 4 → ∀ h : 0 < (t.extract 0 n).size, ((t.extract 0 n)[0].toNat : Int) = 34 := by
  intro h4 h
  have hl := list_cons t h0
  have hc : t[0] = 34 := by
    rw [hl] at hp
    exact signP_four (by rw [hp]; exact h4)
  have e := list_cons (t.extract 0 n) h
  rw [ext_take, hl] at e
  cases n with
  | zero => simp at e
  | succ n =>
    rw [List.take_succ_cons] at e
    have := (List.cons.inj e).1
    rw [← this, hc]; rfl

set_option maxHeartbeats 8000000 in
set_option maxRecDepth 100000 in
theorem tokens_any (s : ByteArray) (w : World) (hs : s.size ≤ 20000) (he : Env w) :
    Calls Tryd.prog 8 #[.string s] w fun e w' => LexRes s.data.toList w.heap.size e w' ∧ Below w.heap.size w w' := by
  have d0 : decide (20000 < (s.size : Int)) = false := decide_eq_false (by omega)
  obtain ⟨S, HS⟩ : ∃ S, Hid (s.data.toList = S) := ⟨_, hide rfl⟩
  have HL0 : Hid (S.length = s.size) := hide (by rw [← unhide HS]; simp)
  go_enter Tryd.func8, Tryd.ntmps8
  go_wp2_with fail
  have hp0 := PB.new w 1 1
  have hb0 : Below w.heap.size w (w.alloc (.cells #[.int .i64 1, .int .i64 1] 25)) := (Below.refl _ _).alloc (Nat.le_refl _) _
  generalize w.alloc (.cells #[.int .i64 1, .int .i64 1] 25) = W at hp0 hb0 ⊢
  go_loopw [0, 2, 4] (fun t v e4 wr => ∃ (q : Nat) (tt : ByteArray) (acc : List Tk), t = .string tt ∧ e4 = .int .i64 0 ∧ q ≤ s.size ∧ Hid (tt.data.toList = S.drop q) ∧ tt.size ≤ s.size - q ∧ s.size - q ≤ tt.size ∧ OwnT wr (w.heap.size + 1) v (acc.map (tm S)) ∧ acc.length ≤ q ∧ Hid (lexA rightK S 0 = preE acc (lexA rightK (S.drop q) q)) ∧ (∃ a b : Nat, Hid (posL S q = (a, b)) ∧ a ≤ 20001 ∧ b ≤ 20001 ∧ PB wr w.heap.size a b) ∧ Below w.heap.size w wr) (fun t _ _ _ => match t with | .string tt => tt.size | _ => 0)
  case atStart => exact ⟨0, s, [], rfl, rfl, by omega, hide (by rw [unhide HS]; rfl), by omega, by omega, ownT_nil _ _, by simp, hide (by rw [pre_nil]; rfl), ⟨1, 1, hide (posL_zero S), by omega, by omega, hp0⟩, hb0⟩
  case round =>
    obtain ⟨q, tt, acc, rfl, rfl, hq, HT, hz1, hz2, hown, hacc, HL, ⟨a, b, HP, ha, hb, hp⟩, hbw⟩ := hrel
    clear hp0 hb0
    obtain ⟨p0, p1, q0, q1⟩ : _ ∧ _ ∧ _ ∧ _ := ⟨hp.c0, hp.c1, hp.f0, hp.f1⟩
    by_cases hlt : q < s.size
    · have hem : tt.toList.isEmpty = false := by rw [isEmpty_of]; exact decide_eq_false (by omega)
      have h0 : 0 < tt.size := by omega
      have h20 : tt.size ≤ 20000 := by omega
      by_cases hbl : blankN tt.data.toList = 0
      · have HB := hide hbl
        have HC := hide (list_cons tt h0)
        obtain ⟨k, n, hkn⟩ : ∃ (k : Int) (n : Nat), signP tt.data.toList = (k, n) := ⟨_, _, rfl⟩
        have HSg := hide hkn
        have HK : Hid (k = 1 ∨ k = 2 ∨ k = 3 ∨ k = 4 ∨ k = 5) := hide (by have := signP_kind (l := tt.data.toList); rw [hkn] at this; exact this)
        have H4 := hide (head34 h0 hkn)
        have hle : n ≤ tt.size := by have := signP_le tt.data.toList; rw [hkn, size_list] at this; exact this
        have hps := prog_sign (k := k) (n := n) (c := tt[0]) (r := (tt.extract 1 tt.size).data.toList) (q := q) (by rw [← unhide HC]; exact hbl) (by rw [← unhide HC]; exact hkn)
        rw [← unhide HC, ← ext_take] at hps
        clear hkn hbl
        have hsz := ext_size0 tt n hle
        have HX := hide (show (tt.extract 0 n).data.toList = (S.drop q).take n by rw [ext_take, unhide HT])
        have hs1 : (tt.extract 0 n).size ≤ 20000 := by omega
        have hle' : (n : Int) ≤ (tt.size : Int) := by omega
        have he1 := he.on hbw
        rcases hps with ⟨ho, hlx⟩ | ⟨ho, hn1, -, hlx⟩
        · have HO := hide ho
          have HR : Hid (lexA rightK S 0 = .error q) := by
            show _ = _
            rw [unhide HL, ← unhide HT, hlx]; rfl
          clear ho hlx
          go_wp2_with (first
            | (go_at_call 14; refine (blank_any _ _ h20 h0).mono ?_; rintro e w9 ⟨rfl, hw9⟩; subst w9; rw [unhide HB])
            | (go_at_call 15; refine (sign_q _ k n _ h20 h0 HSg).mono ?_; rintro e w9 ⟨rfl, hw9⟩; subst w9)
            | (go_at_call 16; refine (right_q k _ false _ hs1 he1 HK H4 HO).mono ?_; rintro e w1 ⟨rfl, hb1⟩))
          have hp1 := hp.on hb1
          clear p0 p1 q0 q1
          obtain ⟨p0, p1, q0, q1⟩ : _ ∧ _ ∧ _ ∧ _ := ⟨hp1.c0, hp1.c1, hp1.f0, hp1.f1⟩
          go_region
          all_goals
            go_wp2_with fail
            have r9 := ((hp1.set0 a).set1 b).drew
            refine bodyPost_ret (v := .tuple #[.slice none 0 0, .agg #[.int .i64 a, .int .i64 b], .int .i64 6]) (by simp [results, Tryd.results8, go_sem, r9.c0, r9.c1]) rfl ⟨?_, ?_⟩
            · rw [unhide HS]
              exact LexRes.err (unhide HR) (by rw [unhide HP]) (by rw [unhide HP])
            · exact (((bt hbw hb1).setCell (p := ⟨w.heap.size, 0, none⟩) (Nat.le_refl _) _).setCell (p := ⟨w.heap.size, 1, none⟩) (Nat.le_refl _) _).drew
        · have HO := hide ho
          obtain ⟨a', b', HA, HP', ha', hb'⟩ := move_on (n := n) (by omega) HP
          have HF : Hid ((tt.extract 0 n).data.toList.foldl adv (a, b) = (a', b')) := hide (by rw [unhide HX]; exact unhide HA)
          have hT' := hide (show (tt.extract n tt.size).data.toList = S.drop (q + n) by rw [ext_drop, unhide HT, List.drop_drop])
          have hz' := ext_size' tt n
          have HU : Hid ((acc ++ [(k, (tt.extract 0 n).data.toList, q)]).map (tm S) = acc.map (tm S) ++ [(k, tt.extract 0 n, (a : Int), (b : Int))]) := by
            show _ = _
            rw [List.map_append]
            simp only [List.map_cons, List.map_nil, tm]
            rw [unhide HP, str_of]
          have HL' : Hid (lexA rightK S 0 = preE (acc ++ [(k, (tt.extract 0 n).data.toList, q)]) (lexA rightK (S.drop (q + n)) (q + n))) := by
            show _ = _
            rw [unhide HL, ← unhide HT, hlx, pre_pre, unhide HT, List.drop_drop]
          clear ho hlx
          obtain ⟨i0, hi, hz0, hz1', hz2'⟩ := info_parts infoT
          have hal : (acc.map (tm S)).length ≤ 20000 := by rw [List.length_map]; omega
          go_wp2_with (first
            | (go_at_call 14; refine (blank_any _ _ h20 h0).mono ?_; rintro e w9 ⟨rfl, hw9⟩; subst w9; rw [unhide HB])
            | (go_at_call 15; refine (sign_q _ k n _ h20 h0 HSg).mono ?_; rintro e w9 ⟨rfl, hw9⟩; subst w9)
            | (go_at_call 16; refine (right_q k _ true _ hs1 he1 HK H4 HO).mono ?_; rintro e w1 ⟨rfl, hb1⟩))
          have hp1 := hp.on hb1
          have hown1 := hown.on hb1
          have hbw1 := bt hbw hb1
          clear p0 p1 q0 q1 hp hown hbw hb1
          obtain ⟨p0, p1, q0, q1⟩ : _ ∧ _ ∧ _ ∧ _ := ⟨hp1.c0, hp1.c1, hp1.f0, hp1.f1⟩
          have hsw : w.heap.size < w1.heap.size := hp1.lt
          go_region_held3 (fun w' => w'.cell? ⟨w.heap.size, 0, none⟩ = some (.int .i64 a) ∧ w'.cell? ⟨w.heap.size, 1, none⟩ = some (.int .i64 b)) (go_keep) (first
            | (refine step_append_wide (by rfl) _ _ 22 (by rfl) (w.heap.size + 1) 30 i0 (.agg #[.int .i64 0, .string ⟨#[]⟩, .int .i64 0, .int .i64 0]) 4 40 Tryd.underlying22 hi hz0 hz1' hz2' (by rfl) (by decide) _ _ _ (by rfl) hs2 ⟨w2.heap.size, 0, none⟩ 1 1 (flatT [(k, tt.extract 0 n, (a : Int), (b : Int))]) (by rfl) (by rfl) (unhide hcv2) (flatT_oneCell _) (by unfold maxLen; omega) (by omega) hsz2 ?_; intro v' w3 hown3 hgrow hnil3; have hp3 := hps2.grown hgrow hs2.ne; have z0 := hp3.c0; have z1 := hp3.c1)
            | (go_at_call 17; refine (clone_any _ _ hs1).mono ?_; rintro e w2 ⟨rfl, hb2⟩; have hp2 := hp1.drew.on hb2; have hown2 := hown1.drew.on hb2; have hbw2 := bt hbw1 (bt ((Below.refl _ _).drew) hb2); have y0 := hp2.c0; have y1 := hp2.c1; have hs2 := ownT_alloc hown2 (bxT (k, tt.extract 0 n, (a : Int), (b : Int))); have hps2 := hp2.alloc (bxT (k, tt.extract 0 n, (a : Int), (b : Int))); have hcv2 := hide (cells_t (heap_alloc_new w2 (bxT (k, tt.extract 0 n, (a : Int), (b : Int))))); have hsz2 : w.heap.size + 1 ≤ (w2.alloc (bxT (k, tt.extract 0 n, (a : Int), (b : Int)))).heap.size := (by have := hp2.lt; simp; omega)))
          all_goals
            have hbw3 : Below w.heap.size w w3 := (hbw2.alloc hbw2.size _).grown hgrow (by have := hp2.lt; simp; omega) (fun m hm => by have := (hs2.lt m hm).1; omega)
            have hown3' : OwnT w3 (w.heap.size + 1) v' ((acc ++ [(k, (tt.extract 0 n).data.toList, q)]).map (tm S)) := by rw [unhide HU]; exact OwnT.more hown3 rfl
            clear hown3 hgrow hnil3 z0 z1 y0 y1 hs2 hps2 hcv2 hsz2 hbw2 hown2 hp2 hb2 hown1 hbw1 p0 p1 q0 q1 hp1 hi hz0 hz1' hz2'
            obtain ⟨p0, p1, q0, q1⟩ : _ ∧ _ ∧ _ ∧ _ := ⟨hp3.c0, hp3.c1, hp3.f0, hp3.f1⟩
            go_wp2_with fail
            go_region_with (go_at_call 18; refine (behind_q a b a' b' _ _ hs1 (by omega) (by omega) HF).mono ?_; rintro e w4 ⟨rfl, hb4⟩; have hp4 := hp3.drew.on hb4; have hown4 := hown3'.drew.on hb4; have y0 := hp4.c0; have y1 := hp4.c1; have y2 := hp4.f0; have y3 := hp4.f1)
            all_goals
              go_wp2_with fail
              go_roundw
              case rel => exact ⟨q + n, tt.extract n tt.size, acc ++ [(k, (tt.extract 0 n).data.toList, q)], rfl, rfl, by omega, hT', by omega, by omega, (hown4.set _ _).set _ _, by rw [List.length_append, List.length_singleton]; omega, HL', ⟨a', b', HP', ha', hb', (hp4.set0 _).set1 _⟩, ((bt hbw3 (bt ((Below.refl _ _).drew) hb4)).setCell (p := ⟨w.heap.size, 0, none⟩) (Nat.le_refl _) _).setCell (p := ⟨w.heap.size, 1, none⟩) (Nat.le_refl _) _⟩
              case measure => simp; omega
      · have e0 : ((blankN tt.data.toList : Int) == 0) = false := by rw [beq_eq_false_iff_ne]; omega
        have hle : blankN tt.data.toList ≤ tt.size := by have := blankN_le tt.data.toList; rw [size_list] at this; exact this
        obtain ⟨n, hn⟩ : ∃ n, blankN tt.data.toList = n := ⟨_, rfl⟩
        have HN := hide hn
        have HG := hide (lex_blankN (R := rightK) (q := q) hn)
        rw [hn] at e0 hle hbl
        clear hn
        have hsz := ext_size0 tt n hle
        have HX := hide (show (tt.extract 0 n).data.toList = (S.drop q).take n by rw [ext_take, unhide HT])
        have hs1 : (tt.extract 0 n).size ≤ 20000 := by omega
        have hle' : (n : Int) ≤ (tt.size : Int) := by omega
        obtain ⟨a', b', HA, HP', ha', hb'⟩ := move_on (n := n) (by omega) HP
        have HF : Hid ((tt.extract 0 n).data.toList.foldl adv (a, b) = (a', b')) := hide (by rw [unhide HX]; exact unhide HA)
        have hT' := hide (show (tt.extract n tt.size).data.toList = S.drop (q + n) by rw [ext_drop, unhide HT, List.drop_drop])
        have hz' := ext_size' tt n
        have HL' : Hid (lexA rightK S 0 = preE acc (lexA rightK (S.drop (q + n)) (q + n))) := by
          show _ = _
          rw [unhide HL, ← unhide HT, unhide HG, unhide HT, List.drop_drop]
        go_wp2_with (go_at_call 14; refine (blank_any _ _ h20 h0).mono ?_; rintro e w9 ⟨rfl, hw9⟩; subst w9; rw [unhide HN])
        go_region_with (go_at_call 18; refine (behind_q a b a' b' _ _ hs1 (by omega) (by omega) HF).mono ?_; rintro e w1 ⟨rfl, hb1⟩; have hp1 := hp.drew.on hb1; have hown1 := hown.drew.on hb1; have y0 := hp1.c0; have y1 := hp1.c1; have y2 := hp1.f0; have y3 := hp1.f1)
        all_goals
          go_wp2_with fail
          go_roundw
          case rel => exact ⟨q + n, tt.extract n tt.size, acc, rfl, rfl, by omega, hT', by omega, by omega, (hown1.set _ _).set _ _, by omega, HL', ⟨a', b', HP', ha', hb', (hp1.set0 _).set1 _⟩, ((bt hbw (bt ((Below.refl _ _).drew) hb1)).setCell (p := ⟨w.heap.size, 0, none⟩) (Nat.le_refl _) _).setCell (p := ⟨w.heap.size, 1, none⟩) (Nat.le_refl _) _⟩
          case measure => simp; omega
    · have hem : tt.toList.isEmpty = true := by rw [isEmpty_of]; exact decide_eq_true (by omega)
      have HR : Hid (lexA rightK S 0 = .ok acc) := by
        show _ = _
        have hl := unhide HL0
        rw [unhide HL, List.drop_eq_nil_of_le (by omega), lexA_nil]
        simp [preE]
      go_wp2_with fail
      have r9 := (hp.set0 0).set1 0
      obtain ⟨oa, on, oc, rfl, -⟩ := hown.slice
      refine bodyPost_ret (v := .tuple #[.slice oa on oc, .agg #[.int .i64 0, .int .i64 0], .int .i64 0]) (by simp [results, Tryd.results8, go_sem, r9.c0, r9.c1]) rfl ⟨?_, ?_⟩
      · rw [unhide HS]
        exact LexRes.ok (unhide HR) (((hown.set _ _).set _ _).less (by omega))
      · exact (hbw.setCell (p := ⟨w.heap.size, 0, none⟩) (Nat.le_refl _) _).setCell (p := ⟨w.heap.size, 1, none⟩) (Nat.le_refl _) _
end Go.Proofs.YtaapeleoiclplaaDoor

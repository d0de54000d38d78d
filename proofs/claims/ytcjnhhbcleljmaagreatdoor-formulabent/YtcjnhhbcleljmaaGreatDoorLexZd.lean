/- Joined: LexH LexM LexN LexO. -/
import Derived.Test.YtcjnhhbcleljmaaGreatDoorLexZc
import Derived.Deep.RegionHeld3
import Derived.Lib.AppendStr
import Derived.Deep.QuietTactic
namespace Go.Proofs.YtcjnhhbcleljmaaGreatDoor
open Go.RowKit
open V

/-- What the reading of signs may answer: the signs in new memory, from block B on; or the place where none begins. -/
def LexRes (S : List UInt8) (B : Nat) (e : Ending) (w : World) : Prop :=
  match lexA rightK S 0 with
  | .ok ts => ∃ a n c, e = .returned (.tuple #[.slice a n c, .agg #[.int .i64 0, .int .i64 0], .int .i64 0]) ∧ OwnT w B (.slice a n c) (ts.map (tm S))
  | .error q => e = .returned (.tuple #[.slice none 0 0, .agg #[.int .i64 (posL S q).1, .int .i64 (posL S q).2], .int .i64 6])
theorem LexRes.ok {S : List UInt8} {B : Nat} {w : World} {ts : List Tk} {v : Value} (h : lexA rightK S 0 = .ok ts) (ho : OwnT w B v (ts.map (tm S))) : LexRes S B (.returned (.tuple #[v, .agg #[.int .i64 0, .int .i64 0], .int .i64 0])) w := by
  unfold LexRes
  rw [h]
  obtain ⟨a, n, c, rfl, -⟩ := ho.slice
  exact ⟨a, n, c, rfl, ho⟩
theorem LexRes.err {S : List UInt8} {B : Nat} {w : World} {q : Nat} {a b : Int} (h : lexA rightK S 0 = .error q) (ha : a = (posL S q).1) (hb : b = (posL S q).2) : LexRes S B (.returned (.tuple #[.slice none 0 0, .agg #[.int .i64 a, .int .i64 b], .int .i64 6])) w := by
  unfold LexRes
  rw [h, ha, hb]

theorem ext_take (t : ByteArray) (n : Nat) : (t.extract 0 n).data.toList = t.data.toList.take n := by
  rw [Lib.extract_data]; simp
theorem ext_drop (t : ByteArray) (n : Nat) : (t.extract n t.size).data.toList = t.data.toList.drop n := by
  rw [Lib.extract_data, List.take_of_length_le (by simp)]
theorem size_list (t : ByteArray) : t.data.toList.length = t.size := by simp
theorem ext_size' (t : ByteArray) (n : Nat) : (t.extract n t.size).size = t.size - n := by rw [ByteArray.size_extract]; omega
theorem ext_size0 (t : ByteArray) (n : Nat) (h : n ≤ t.size) : (t.extract 0 n).size = n := by rw [ByteArray.size_extract]; omega

theorem sign_q (s : ByteArray) (k : Int) (n : Nat) (w : World) (hs : s.size ≤ 20000) (h0 : 0 < s.size) (H : Hid (signP s.data.toList = (k, n))) :
    Calls Tryz.prog 87 #[.string s] w fun e w' => e = .returned (.tuple #[.int .i64 k, .int .i64 n]) ∧ w' = w := by
  have := sign_any s w hs h0
  rw [unhide H] at this
  exact this
theorem right_q (k : Int) (s : ByteArray) (b : Bool) (w : World) (hs : s.size ≤ 20000) (he : Env w) (hk : Hid (k = 1 ∨ k = 2 ∨ k = 3 ∨ k = 4 ∨ k = 5)) (h4 : Hid (k = 4 → ∀ h : 0 < s.size, (s[0].toNat : Int) = 34)) (H : Hid (okK k s.data.toList = b)) :
    Calls Tryz.prog 88 #[.int .i64 k, .string s] w fun e w' => e = .returned (.bool b) ∧ Below w.heap.size w w' := by
  have := right_any k s w hs he (unhide hk) (unhide h4)
  rw [unhide H] at this
  exact this
theorem behind_q (l c l' c' : Nat) (s : ByteArray) (w : World) (hs : s.size ≤ 20000) (hl : l ≤ 40000) (hc : c ≤ 40000) (H : Hid (s.data.toList.foldl adv (l, c) = (l', c'))) :
    Calls Tryz.prog 90 #[.agg #[.int .i64 l, .int .i64 c], .string s] w fun e w' => e = .returned (.agg #[.int .i64 l', .int .i64 c']) ∧ Below w.heap.size w w' := by
  have := behind_any l c s w hs hl hc
  rw [unhide H] at this
  exact this
theorem posL_bd (S : List UInt8) (q : Nat) (h : q ≤ 20000) : (posL S q).1 ≤ 20001 ∧ (posL S q).2 ≤ 20001 := by
  have := posL_one S q
  omega
/-- One piece of the text behind the place. -/
theorem move_on {S : List UInt8} {q n a b : Nat} (hq : q + n ≤ 20000) (H : Hid (posL S q = (a, b))) : ∃ a' b' : Nat, Hid (((S.drop q).take n).foldl adv (a, b) = (a', b')) ∧ Hid (posL S (q + n) = (a', b')) ∧ a' ≤ 20001 ∧ b' ≤ 20001 := by
  have h := posL_add S q n
  rw [unhide H] at h
  have hb := posL_bd S (q + n) hq
  refine ⟨(posL S (q + n)).1, (posL S (q + n)).2, hide h.symm, hide rfl, hb.1, hb.2⟩
theorem head34 {t : ByteArray} {n : Nat} {k : Int} (h0 : 0 < t.size) (hp : signP t.data.toList = (k, n)) : k = 4 → ∀ h : 0 < (t.extract 0 n).size, ((t.extract 0 n)[0].toNat : Int) = 34 := by
  intro h4 h
  have hl := list_cons t h0
  have hc : t[0] = 34 := by
    rw [hl] at hp
    exact signP_four (by rw [hp]; exact h4)
  have e := list_cons (t.extract 0 n) h
  rw [ext_take, hl] at e
  cases n with
  | zero => simp at e
  | succ n =>
    rw [List.take_succ_cons] at e
    have := (List.cons.inj e).1
    rw [← this, hc]; rfl

set_option maxHeartbeats 8000000 in
set_option maxRecDepth 100000 in
theorem tokens_any (s : ByteArray) (w : World) (hs : s.size ≤ 20000) (he : Env w) :
    Calls Tryz.prog 41 #[.string s] w fun e w' => LexRes s.data.toList w.heap.size e w' ∧ Below w.heap.size w w' := by
  have d0 : decide (20000 < (s.size : Int)) = false := decide_eq_false (by omega)
  obtain ⟨S, HS⟩ : ∃ S, Hid (s.data.toList = S) := ⟨_, hide rfl⟩
  have HL0 : Hid (S.length = s.size) := hide (by rw [← unhide HS]; simp)
  go_enter Tryz.func41, Tryz.ntmps41
  go_wp2_with fail
  have hp0 := PB.new w 1 1
  have hb0 : Below w.heap.size w (w.alloc (.cells #[.int .i64 1, .int .i64 1] 66)) := (Below.refl _ _).alloc (Nat.le_refl _) _
  generalize w.alloc (.cells #[.int .i64 1, .int .i64 1] 66) = W at hp0 hb0 ⊢
  go_loopw [0, 2, 4] (fun t v e4 wr => ∃ (q : Nat) (tt : ByteArray) (acc : List Tk), t = .string tt ∧ e4 = .int .i64 0 ∧ q ≤ s.size ∧ Hid (tt.data.toList = S.drop q) ∧ tt.size ≤ s.size - q ∧ s.size - q ≤ tt.size ∧ OwnT wr (w.heap.size + 1) v (acc.map (tm S)) ∧ acc.length ≤ q ∧ Hid (lexA rightK S 0 = preE acc (lexA rightK (S.drop q) q)) ∧ (∃ a b : Nat, Hid (posL S q = (a, b)) ∧ a ≤ 20001 ∧ b ≤ 20001 ∧ PB wr w.heap.size a b) ∧ Below w.heap.size w wr) (fun t _ _ _ => match t with | .string tt => tt.size | _ => 0)
  case atStart => exact ⟨0, s, [], rfl, rfl, by omega, hide (by rw [unhide HS]; rfl), by omega, by omega, ownT_nil _ _, by simp, hide (by rw [pre_nil]; rfl), ⟨1, 1, hide (posL_zero S), by omega, by omega, hp0⟩, hb0⟩
  case round =>
    obtain ⟨q, tt, acc, rfl, rfl, hq, HT, hz1, hz2, hown, hacc, HL, ⟨a, b, HP, ha, hb, hp⟩, hbw⟩ := hrel
    clear hp0 hb0
    obtain ⟨p0, p1, q0, q1⟩ : _ ∧ _ ∧ _ ∧ _ := ⟨hp.c0, hp.c1, hp.f0, hp.f1⟩
    by_cases hlt : q < s.size
    · have hem : tt.toList.isEmpty = false := by rw [isEmpty_of]; exact decide_eq_false (by omega)
      have h0 : 0 < tt.size := by omega
      have h20 : tt.size ≤ 20000 := by omega
      by_cases hbl : blankN tt.data.toList = 0
      · have HB := hide hbl
        have HC := hide (list_cons tt h0)
        obtain ⟨k, n, hkn⟩ : ∃ (k : Int) (n : Nat), signP tt.data.toList = (k, n) := ⟨_, _, rfl⟩
        have HSg := hide hkn
        have HK : Hid (k = 1 ∨ k = 2 ∨ k = 3 ∨ k = 4 ∨ k = 5) := hide (by have := signP_kind (l := tt.data.toList); rw [hkn] at this; exact this)
        have H4 := hide (head34 h0 hkn)
        have hle : n ≤ tt.size := by have := signP_le tt.data.toList; rw [hkn, size_list] at this; exact this
        have hps := prog_sign (k := k) (n := n) (c := tt[0]) (r := (tt.extract 1 tt.size).data.toList) (q := q) (by rw [← unhide HC]; exact hbl) (by rw [← unhide HC]; exact hkn)
        rw [← unhide HC, ← ext_take] at hps
        clear hkn hbl
        have hsz := ext_size0 tt n hle
        have HX := hide (show (tt.extract 0 n).data.toList = (S.drop q).take n by rw [ext_take, unhide HT])
        have hs1 : (tt.extract 0 n).size ≤ 20000 := by omega
        have hle' : (n : Int) ≤ (tt.size : Int) := by omega
        have he1 := he.on hbw
        rcases hps with ⟨ho, hlx⟩ | ⟨ho, hn1, -, hlx⟩
        · have HO := hide ho
          have HR : Hid (lexA rightK S 0 = .error q) := by
            show _ = _
            rw [unhide HL, ← unhide HT, hlx]; rfl
          clear ho hlx
          go_wp2_with (first
            | (go_at_call 86; refine (blank_any _ _ h20 h0).mono ?_; rintro e w9 ⟨rfl, hw9⟩; subst w9; rw [unhide HB])
            | (go_at_call 87; refine (sign_q _ k n _ h20 h0 HSg).mono ?_; rintro e w9 ⟨rfl, hw9⟩; subst w9)
            | (go_at_call 88; refine (right_q k _ false _ hs1 he1 HK H4 HO).mono ?_; rintro e w1 ⟨rfl, hb1⟩))
          have hp1 := hp.on hb1
          clear p0 p1 q0 q1
          obtain ⟨p0, p1, q0, q1⟩ : _ ∧ _ ∧ _ ∧ _ := ⟨hp1.c0, hp1.c1, hp1.f0, hp1.f1⟩
          go_region
          all_goals
            go_wp2_with fail
            have r9 := ((hp1.set0 a).set1 b).drew
            refine bodyPost_ret (v := .tuple #[.slice none 0 0, .agg #[.int .i64 a, .int .i64 b], .int .i64 6]) (by simp [results, Tryz.results41, go_sem, r9.c0, r9.c1]) rfl ⟨?_, ?_⟩
            · rw [unhide HS]
              exact LexRes.err (unhide HR) (by rw [unhide HP]) (by rw [unhide HP])
            · exact (((bt hbw hb1).setCell (p := ⟨w.heap.size, 0, none⟩) (Nat.le_refl _) _).setCell (p := ⟨w.heap.size, 1, none⟩) (Nat.le_refl _) _).drew
        · have HO := hide ho
          obtain ⟨a', b', HA, HP', ha', hb'⟩ := move_on (n := n) (by omega) HP
          have HF : Hid ((tt.extract 0 n).data.toList.foldl adv (a, b) = (a', b')) := hide (by rw [unhide HX]; exact unhide HA)
          have hT' := hide (show (tt.extract n tt.size).data.toList = S.drop (q + n) by rw [ext_drop, unhide HT, List.drop_drop])
          have hz' := ext_size' tt n
          have HU : Hid ((acc ++ [(k, (tt.extract 0 n).data.toList, q)]).map (tm S) = acc.map (tm S) ++ [(k, tt.extract 0 n, (a : Int), (b : Int))]) := by
            show _ = _
            rw [List.map_append]
            simp only [List.map_cons, List.map_nil, tm]
            rw [unhide HP, str_of]
          have HL' : Hid (lexA rightK S 0 = preE (acc ++ [(k, (tt.extract 0 n).data.toList, q)]) (lexA rightK (S.drop (q + n)) (q + n))) := by
            show _ = _
            rw [unhide HL, ← unhide HT, hlx, pre_pre, unhide HT, List.drop_drop]
          clear ho hlx
          obtain ⟨i0, hi, hz0, hz1', hz2'⟩ := info_parts infoT
          have hal : (acc.map (tm S)).length ≤ 20000 := by rw [List.length_map]; omega
          go_wp2_with (first
            | (go_at_call 86; refine (blank_any _ _ h20 h0).mono ?_; rintro e w9 ⟨rfl, hw9⟩; subst w9; rw [unhide HB])
            | (go_at_call 87; refine (sign_q _ k n _ h20 h0 HSg).mono ?_; rintro e w9 ⟨rfl, hw9⟩; subst w9)
            | (go_at_call 88; refine (right_q k _ true _ hs1 he1 HK H4 HO).mono ?_; rintro e w1 ⟨rfl, hb1⟩))
          have hp1 := hp.on hb1
          have hown1 := hown.on hb1
          have hbw1 := bt hbw hb1
          clear p0 p1 q0 q1 hp hown hbw hb1
          obtain ⟨p0, p1, q0, q1⟩ : _ ∧ _ ∧ _ ∧ _ := ⟨hp1.c0, hp1.c1, hp1.f0, hp1.f1⟩
          have hsw : w.heap.size < w1.heap.size := hp1.lt
          go_region_held3 (fun w' => w'.cell? ⟨w.heap.size, 0, none⟩ = some (.int .i64 a) ∧ w'.cell? ⟨w.heap.size, 1, none⟩ = some (.int .i64 b)) (go_keep) (first
            | (refine step_append_wide (by rfl) _ _ 26 (by rfl) (w.heap.size + 1) 89 i0 (.agg #[.int .i64 0, .string ⟨#[]⟩, .int .i64 0, .int .i64 0]) 4 40 Tryz.underlying26 hi hz0 hz1' hz2' (by rfl) (by decide) _ _ _ (by rfl) hs2 ⟨w2.heap.size, 0, none⟩ 1 1 (flatT [(k, tt.extract 0 n, (a : Int), (b : Int))]) (by rfl) (by rfl) (unhide hcv2) (flatT_oneCell _) (by unfold maxLen; omega) (by omega) hsz2 ?_; intro v' w3 hown3 hgrow hnil3; have hp3 := hps2.grown hgrow hs2.ne; have z0 := hp3.c0; have z1 := hp3.c1)
            | (go_at_call 89; refine (clone_any _ _ hs1).mono ?_; rintro e w2 ⟨rfl, hb2⟩; have hp2 := hp1.drew.on hb2; have hown2 := hown1.drew.on hb2; have hbw2 := bt hbw1 (bt ((Below.refl _ _).drew) hb2); have y0 := hp2.c0; have y1 := hp2.c1; have hs2 := ownT_alloc hown2 (bxT (k, tt.extract 0 n, (a : Int), (b : Int))); have hps2 := hp2.alloc (bxT (k, tt.extract 0 n, (a : Int), (b : Int))); have hcv2 := hide (cells_t (heap_alloc_new w2 (bxT (k, tt.extract 0 n, (a : Int), (b : Int))))); have hsz2 : w.heap.size + 1 ≤ (w2.alloc (bxT (k, tt.extract 0 n, (a : Int), (b : Int)))).heap.size := (by have := hp2.lt; simp; omega)))
          all_goals
            have hbw3 : Below w.heap.size w w3 := (hbw2.alloc hbw2.size _).grown hgrow (by have := hp2.lt; simp; omega) (fun m hm => by have := (hs2.lt m hm).1; omega)
            have hown3' : OwnT w3 (w.heap.size + 1) v' ((acc ++ [(k, (tt.extract 0 n).data.toList, q)]).map (tm S)) := by rw [unhide HU]; exact OwnT.more hown3 rfl
            clear hown3 hgrow hnil3 z0 z1 y0 y1 hs2 hps2 hcv2 hsz2 hbw2 hown2 hp2 hb2 hown1 hbw1 p0 p1 q0 q1 hp1 hi hz0 hz1' hz2'
            obtain ⟨p0, p1, q0, q1⟩ : _ ∧ _ ∧ _ ∧ _ := ⟨hp3.c0, hp3.c1, hp3.f0, hp3.f1⟩
            go_wp2_with fail
            go_region_with (go_at_call 90; refine (behind_q a b a' b' _ _ hs1 (by omega) (by omega) HF).mono ?_; rintro e w4 ⟨rfl, hb4⟩; have hp4 := hp3.drew.on hb4; have hown4 := hown3'.drew.on hb4; have y0 := hp4.c0; have y1 := hp4.c1; have y2 := hp4.f0; have y3 := hp4.f1)
            all_goals
              go_wp2_with fail
              go_roundw
              case rel => exact ⟨q + n, tt.extract n tt.size, acc ++ [(k, (tt.extract 0 n).data.toList, q)], rfl, rfl, by omega, hT', by omega, by omega, (hown4.set _ _).set _ _, by rw [List.length_append, List.length_singleton]; omega, HL', ⟨a', b', HP', ha', hb', (hp4.set0 _).set1 _⟩, ((bt hbw3 (bt ((Below.refl _ _).drew) hb4)).setCell (p := ⟨w.heap.size, 0, none⟩) (Nat.le_refl _) _).setCell (p := ⟨w.heap.size, 1, none⟩) (Nat.le_refl _) _⟩
              case measure => simp; omega
      · have e0 : ((blankN tt.data.toList : Int) == 0) = false := by rw [beq_eq_false_iff_ne]; omega
        have hle : blankN tt.data.toList ≤ tt.size := by have := blankN_le tt.data.toList; rw [size_list] at this; exact this
        obtain ⟨n, hn⟩ : ∃ n, blankN tt.data.toList = n := ⟨_, rfl⟩
        have HN := hide hn
        have HG := hide (lex_blankN (R := rightK) (q := q) hn)
        rw [hn] at e0 hle hbl
        clear hn
        have hsz := ext_size0 tt n hle
        have HX := hide (show (tt.extract 0 n).data.toList = (S.drop q).take n by rw [ext_take, unhide HT])
        have hs1 : (tt.extract 0 n).size ≤ 20000 := by omega
        have hle' : (n : Int) ≤ (tt.size : Int) := by omega
        obtain ⟨a', b', HA, HP', ha', hb'⟩ := move_on (n := n) (by omega) HP
        have HF : Hid ((tt.extract 0 n).data.toList.foldl adv (a, b) = (a', b')) := hide (by rw [unhide HX]; exact unhide HA)
        have hT' := hide (show (tt.extract n tt.size).data.toList = S.drop (q + n) by rw [ext_drop, unhide HT, List.drop_drop])
        have hz' := ext_size' tt n
        have HL' : Hid (lexA rightK S 0 = preE acc (lexA rightK (S.drop (q + n)) (q + n))) := by
          show _ = _
          rw [unhide HL, ← unhide HT, unhide HG, unhide HT, List.drop_drop]
        go_wp2_with (go_at_call 86; refine (blank_any _ _ h20 h0).mono ?_; rintro e w9 ⟨rfl, hw9⟩; subst w9; rw [unhide HN])
        go_region_with (go_at_call 90; refine (behind_q a b a' b' _ _ hs1 (by omega) (by omega) HF).mono ?_; rintro e w1 ⟨rfl, hb1⟩; have hp1 := hp.drew.on hb1; have hown1 := hown.drew.on hb1; have y0 := hp1.c0; have y1 := hp1.c1; have y2 := hp1.f0; have y3 := hp1.f1)
        all_goals
          go_wp2_with fail
          go_roundw
          case rel => exact ⟨q + n, tt.extract n tt.size, acc, rfl, rfl, by omega, hT', by omega, by omega, (hown1.set _ _).set _ _, by omega, HL', ⟨a', b', HP', ha', hb', (hp1.set0 _).set1 _⟩, ((bt hbw (bt ((Below.refl _ _).drew) hb1)).setCell (p := ⟨w.heap.size, 0, none⟩) (Nat.le_refl _) _).setCell (p := ⟨w.heap.size, 1, none⟩) (Nat.le_refl _) _⟩
          case measure => simp; omega
    · have hem : tt.toList.isEmpty = true := by rw [isEmpty_of]; exact decide_eq_true (by omega)
      have HR : Hid (lexA rightK S 0 = .ok acc) := by
        show _ = _
        have hl := unhide HL0
        rw [unhide HL, List.drop_eq_nil_of_le (by omega), lexA_nil]
        simp [preE]
      go_wp2_with fail
      have r9 := (hp.set0 0).set1 0
      obtain ⟨oa, on, oc, rfl, -⟩ := hown.slice
      refine bodyPost_ret (v := .tuple #[.slice oa on oc, .agg #[.int .i64 0, .int .i64 0], .int .i64 0]) (by simp [results, Tryz.results41, go_sem, r9.c0, r9.c1]) rfl ⟨?_, ?_⟩
      · rw [unhide HS]
        exact LexRes.ok (unhide HR) (((hown.set _ _).set _ _).less (by omega))
      · exact (hbw.setCell (p := ⟨w.heap.size, 0, none⟩) (Nat.le_refl _) _).setCell (p := ⟨w.heap.size, 1, none⟩) (Nat.le_refl _) _
end Go.Proofs.YtcjnhhbcleljmaaGreatDoor
namespace Go.Proofs.YtcjnhhbcleljmaaGreatDoor
open Go.RowKit
open V

set_option maxHeartbeats 2000000 in
set_option maxRecDepth 100000 in
theorem writeStr_any (B b : Nat) (bs : List Value) (s : ByteArray) (w : World) (h : Lib.IsBuilder 197 5 B b bs w) (hlen : bs.length + s.size ≤ 140737488355328) (hBw : B ≤ w.heap.size) :
    Calls Tryz.prog 151 #[.pointer (some ⟨b, 0, none⟩), .string s] w fun e w' => e = .returned (.tuple #[.int .i64 s.size, .nilIface]) ∧ (Lib.BuilderAt 197 5 B b (.pointer (some ⟨b, 0, none⟩)) (bs ++ Lib.strCells s) w' ∧ Below B w w') := by
  obtain ⟨i0, hi, hz0, hz1, hz2⟩ := info_parts infoByte
  go_enter Tryz.func151, Tryz.ntmps151
  go_wp2_with (go_at_call 189; refine (copyCheck_any B b bs _ h).mono ?_)
  rintro e w1 ⟨rfl, h1, hb1⟩
  obtain ⟨hB, v, hbk, hown, hne⟩ := h1
  have c0 : w1.cell? ⟨b, 0, none⟩ = some (.pointer (some ⟨b, 0, none⟩)) := by rw [Lib.cell_of_heap hbk]; rfl
  have c1 : w1.cell? ⟨b, 1, none⟩ = some v := by rw [Lib.cell_of_heap hbk]; rfl
  go_wp2_with (at_builtin; refine Lib.wpList_append_own_string _ rfl _ _ 174 9 rfl B 5 i0 Tryz.underlying174 Tryz.underlying9 hi hz0 hz1 hz2 _ _ _ rfl hown s rfl ?c3 ?c4 ?c5 ?_)
  case c3 => unfold maxLen; omega
  case c4 => omega
  case c5 => have := hb1.size; omega
  intro v' w2 hown' hgrow _
  have hlt : b < w1.heap.size := by
    rcases Nat.lt_or_ge b w1.heap.size with h' | h'
    · exact h'
    · simp [Array.getElem?_eq_none h'] at hbk
  have hb2 : w2.heap[b]? = some (.cells #[.pointer (some ⟨b, 0, none⟩), v] 197 (0, 0)) := by
    rw [hgrow.block b hlt (fun e => hne e.symm)]
    exact hbk
  have d0 : w2.cell? ⟨b, 0, none⟩ = some (.pointer (some ⟨b, 0, none⟩)) := by rw [Lib.cell_of_heap hb2]; rfl
  have d1 : w2.cell? ⟨b, 1, none⟩ = some v := by rw [Lib.cell_of_heap hb2]; rfl
  have f1 : w2.frozen? ⟨b, 1, none⟩ = false := Lib.frozen_of_heap hb2 1
  obtain ⟨ao, n', cap, rfl⟩ : ∃ ao n' cap, v' = .slice ao n' cap := by
    rcases hown'.2 with ⟨hv, _⟩ | ⟨g, cap, cur, hv, _⟩
    · exact ⟨_, _, _, hv⟩
    · exact ⟨_, _, _, hv⟩
  go_wp2
  go_ret2
  refine ⟨rfl, ?_, ?_⟩
  · exact Lib.BuilderAt.put (T := 197) (e := 5) hB hb2 (bs' := bs ++ Lib.strCells s) (by simpa [Lib.strCells_length] using hown') (by decide)
  · exact (hb1.grown hgrow (by have := hb1.size; omega) (fun k hk => (hown.lt k hk).1)).setCell (p := ⟨b, 1, none⟩) hB _

/-- WriteString over bytes: the builder holds the text's bytes besides. -/
theorem writeStr_at (B b : Nat) (l : List UInt8) (s : ByteArray) (w : World) (h : Lib.IsBuilder 197 5 B b (Lib.byteCells l) w) (hlen : l.length + s.size ≤ 140737488355328) (hBw : B ≤ w.heap.size) :
    Calls Tryz.prog 151 #[.pointer (some ⟨b, 0, none⟩), .string s] w fun e w' => e = .returned (.tuple #[.int .i64 s.size, .nilIface]) ∧ Lib.IsBuilder 197 5 B b (Lib.byteCells (l ++ s.data.toList)) w' ∧ Below B w w' ∧ B ≤ w'.heap.size := by
  refine (writeStr_any B b (Lib.byteCells l) s w h (by simpa [Lib.byteCells] using hlen) hBw).mono ?_
  rintro e w' ⟨rfl, h1, hb⟩
  refine ⟨rfl, Or.inr ?_, hb, by have := hb.size; omega⟩
  rw [Lib.byteCells_append]; exact h1

theorem builderAt_on {w w' : World} {T e : TypeId} {B b : Nat} {p : Value} {bs : List Value} (h : Lib.BuilderAt T e B b p bs w) (hb : Below w.heap.size w w') : Lib.BuilderAt T e B b p bs w' := by
  obtain ⟨h0, v, h1, h2, h3⟩ := h
  exact ⟨h0, v, by rw [hb.block b (Array.getElem?_eq_some_iff.1 h1).1]; exact h1, own_on h2 hb, h3⟩
theorem builder_on {w w' : World} {T e : TypeId} {B b : Nat} {bs : List Value} (h : Lib.IsBuilder T e B b bs w) (hb : Below w.heap.size w w') : Lib.IsBuilder T e B b bs w' := by
  rcases h with h | h
  · exact Or.inl (builderAt_on h hb)
  · exact Or.inr (builderAt_on h hb)


theorem copyCheck_kept (B b : Nat) (bs : List Value) (w : World) (h : Lib.IsBuilder 197 5 B b bs w) :
    Calls Tryz.prog 189 #[.pointer (some ⟨b, 0, none⟩)] w fun e w' => e = .returned (.tuple #[]) ∧ (Lib.BuilderAt 197 5 B b (.pointer (some ⟨b, 0, none⟩)) bs w' ∧ Below B w w' ∧ (∀ g, g ≠ b → w'.heap[g]? = w.heap[g]?) ∧ w'.cell? ⟨b, 1, none⟩ = w.cell? ⟨b, 1, none⟩) := by
  rcases h with h | h
  · refine (copyCheck_fresh b w h.cell0 h.shape h.frozen0).mono ?_
    rintro e w' ⟨rfl, rfl⟩
    exact ⟨rfl, h.used _, (Below.refl B w).setCell (p := ⟨b, 0, none⟩) h.1 _, fun g hg => Below.heap_setCell w ⟨b, 0, none⟩ _ g hg, World.cell?_setCell_other _ _ _ _ (by simp)⟩
  · refine (copyCheck_used b w h.cell0).mono ?_
    rintro e w' ⟨rfl, rfl⟩
    exact ⟨rfl, h, Below.refl B _, fun _ _ => rfl, rfl⟩

set_option maxHeartbeats 2000000 in
set_option maxRecDepth 100000 in
theorem writeByte_box (B b : Nat) (bs : List Value) (c : Int) (w : World) (gg : Nat) (ob : Obj) (h : Lib.IsBuilder 197 5 B b bs w) (hg : w.heap[gg]? = some ob) (hgb : gg ≠ b) (hgv : ∀ v, w.cell? ⟨b, 1, none⟩ = some v → v.ownBlock ≠ some gg) (hlen : bs.length + 1 ≤ 140737488355328) (hBw : B ≤ w.heap.size) :
    Calls Tryz.prog 154 #[.pointer (some ⟨b, 0, none⟩), .int .u8 c] w fun e w' => e = .returned .nilIface ∧ (Lib.BuilderAt 197 5 B b (.pointer (some ⟨b, 0, none⟩)) (bs ++ [.int .u8 c]) w' ∧ Below B w w' ∧ w'.heap[gg]? = some ob) := by
  obtain ⟨i0, hi, hz0, hz1, hz2⟩ := info_parts infoByte
  go_enter Tryz.func154, Tryz.ntmps154
  go_wp2_with (go_at_call 189; refine (copyCheck_kept B b bs _ h).mono ?_)
  rintro e w1 ⟨rfl, h1, hb1, hk1', hc1'⟩
  have hk1 := hide hk1'
  have hc1 := hide hc1'
  clear hk1' hc1'
  obtain ⟨hB, v, hbk, hown, hne⟩ := h1
  have c0 : w1.cell? ⟨b, 0, none⟩ = some (.pointer (some ⟨b, 0, none⟩)) := by rw [Lib.cell_of_heap hbk]; rfl
  have c1 : w1.cell? ⟨b, 1, none⟩ = some v := by rw [Lib.cell_of_heap hbk]; rfl
  go_wp2_with (at_builtin; refine wpList_append_own _ rfl _ _ 174 rfl B 5 i0 (.int .u8 0) 1 1 Tryz.underlying174 hi hz0 hz1 hz2 rfl (by decide) _ _ _ rfl (hown.alloc _) ⟨w1.heap.size, 0, none⟩ 1 1 [.int .u8 c] rfl rfl ?c1 ?c2 ?c3 ?c4 ?c5 ?_)
  case c1 =>
    intro j u hj
    match j, hj with
    | 0, hj => simp at hj; subst hj; simp [Addr.add]
  case c2 => intro u hu; simp at hu; subst hu; rfl
  case c3 => unfold maxLen; omega
  case c4 => omega
  case c5 => have := hb1.size; simp; omega
  intro v' w2 hown' hgrow _
  have hlt : b < w1.heap.size := by
    rcases Nat.lt_or_ge b w1.heap.size with h' | h'
    · exact h'
    · simp [Array.getElem?_eq_none h'] at hbk
  have hb2 : w2.heap[b]? = some (.cells #[.pointer (some ⟨b, 0, none⟩), v] 197 (0, 0)) := by
    rw [hgrow.block b (by simp; omega) (fun e => hne e.symm), Lib.alloc_old w1 _ b hlt]
    exact hbk
  have d0 : w2.cell? ⟨b, 0, none⟩ = some (.pointer (some ⟨b, 0, none⟩)) := by rw [Lib.cell_of_heap hb2]; rfl
  have d1 : w2.cell? ⟨b, 1, none⟩ = some v := by rw [Lib.cell_of_heap hb2]; rfl
  have f1 : w2.frozen? ⟨b, 1, none⟩ = false := Lib.frozen_of_heap hb2 1
  obtain ⟨g, cap, rfl⟩ : ∃ g cap, v' = .slice (some ⟨g, 0, none⟩) (bs.length + 1) cap := by
    rcases hown'.2 with ⟨_, h0⟩ | ⟨g, cap, cur, hv, _⟩
    · omega
    · exact ⟨g, cap, hv⟩
  go_wp2
  go_ret
  have hg1 : w1.heap[gg]? = some ob := by rw [unhide hk1 gg hgb]; exact hg
  have hglt : gg < w1.heap.size := by
    rcases Nat.lt_or_ge gg w1.heap.size with h' | h'
    · exact h'
    · simp [Array.getElem?_eq_none h'] at hg1
  have hvg : v.ownBlock ≠ some gg := hgv v ((unhide hc1).symm.trans c1)
  refine ⟨rfl, ?_, ?_, ?_⟩
  · exact Lib.BuilderAt.put (T := 197) (e := 5) hB hb2 (bs' := bs ++ [.int .u8 c]) (by simpa using hown') (by decide)
  · exact ((hb1.alloc (by have := hb1.size; omega) _).grown hgrow (by have := hb1.size; simp; omega) (fun k hk => (hown.lt k hk).1)).setCell (p := ⟨b, 1, none⟩) hB _
  · rw [Below.heap_setCell _ ⟨b, 1, none⟩ _ gg hgb, hgrow.block gg (by simp; omega) (fun e => hvg e.symm), Lib.alloc_old w1 _ gg hglt]
    exact hg1

/-- WriteByte, a box just laid beside it. -/
theorem writeByte_new (B b : Nat) (l : List UInt8) (c : UInt8) (n : Int) (hn : n = c.toNat) (w : World) (ob : Obj) (h : Lib.IsBuilder 197 5 B b (Lib.byteCells l) w) (hlen : l.length + 1 ≤ 140737488355328) (hBw : B ≤ w.heap.size) :
    Calls Tryz.prog 154 #[.pointer (some ⟨b, 0, none⟩), .int .u8 n] (w.alloc ob) fun e w' => e = .returned .nilIface ∧ Lib.IsBuilder 197 5 B b (Lib.byteCells (l ++ [c])) w' ∧ Below B w w' ∧ B ≤ w'.heap.size ∧ w'.heap[w.heap.size]? = some ob := by
  subst hn
  have hbl : Below w.heap.size w (w.alloc ob) := (Below.refl _ _).alloc (Nat.le_refl _) _
  have hv : b < w.heap.size ∧ ∀ v, (w.alloc ob).cell? ⟨b, 1, none⟩ = some v → v.ownBlock ≠ some w.heap.size := by
    have key : ∀ (p : Value), Lib.BuilderAt 197 5 B b p (Lib.byteCells l) w → b < w.heap.size ∧ ∀ v, (w.alloc ob).cell? ⟨b, 1, none⟩ = some v → v.ownBlock ≠ some w.heap.size := by
      rintro p ⟨_, v0, hb0, ho, _⟩
      have hlt := (Array.getElem?_eq_some_iff.1 hb0).1
      refine ⟨hlt, fun v hc e => ?_⟩
      have hb1 : (w.alloc ob).heap[b]? = _ := (Lib.alloc_old w ob b hlt).trans hb0
      rw [Lib.cell_of_heap hb1] at hc
      have : v0 = v := by simpa using hc
      subst this
      have := (ho.lt _ e).2
      omega
    rcases h with h | h
    · exact key _ h
    · exact key _ h
  refine (writeByte_box B b (Lib.byteCells l) c.toNat (w.alloc ob) w.heap.size ob (builder_on h hbl) (heap_alloc_new w ob) (by omega) hv.2 (by simpa [Lib.byteCells] using hlen) (by simp; omega)).mono ?_
  rintro e w' ⟨rfl, h1, hb, hk⟩
  have e1 : Lib.byteCells (l ++ [c]) = Lib.byteCells l ++ [.int .u8 c.toNat] := by simp [Lib.byteCells]
  refine ⟨rfl, Or.inr (by rw [e1]; exact h1), ((Below.refl B w).alloc hBw ob).trans hb, by have := hb.size; simp at this; omega, hk⟩

namespace V
/-- The texts of signs, a blank between. -/
def joinT : List Tm → List UInt8
  | [] => []
  | x :: r => x.2.1.data.toList ++ (r.map (fun y => 32 :: y.2.1.data.toList)).flatten
theorem joinT_snoc (xs : List Tm) (x : Tm) : joinT (xs ++ [x]) = joinT xs ++ ((if xs = [] then [] else [32]) ++ x.2.1.data.toList) := by
  cases xs with
  | nil => simp [joinT]
  | cons y r => simp [joinT]
theorem joinT_take_le (xs : List Tm) (k : Nat) : (joinT (xs.take k)).length ≤ (joinT xs).length := by
  cases xs with
  | nil => simp
  | cons y r =>
    cases k with
    | zero => simp [joinT]
    | succ k =>
      simp only [List.take_succ_cons, joinT, List.length_append]
      have : (r.take k).map (fun y : Tm => 32 :: y.2.1.data.toList) = (r.map (fun y : Tm => 32 :: y.2.1.data.toList)).take k := by rw [List.map_take]
      rw [this]
      have h2 : ∀ (ls : List (List UInt8)) (k : Nat), (ls.take k).flatten.length ≤ ls.flatten.length := by
        intro ls
        induction ls with
        | nil => intro k; simp
        | cons a ls ih =>
          intro k
          cases k with
          | zero => simp
          | succ k => simp only [List.take_succ_cons, List.flatten_cons, List.length_append]; have := ih k; omega
      have := h2 (r.map (fun y : Tm => 32 :: y.2.1.data.toList)) k
      omega
end V

end Go.Proofs.YtcjnhhbcleljmaaGreatDoor
namespace Go.Proofs.YtcjnhhbcleljmaaGreatDoor
open Go.RowKit
open V

theorem toList_inj {a b : ByteArray} : a.toList = b.toList ↔ a = b := by
  rw [ByteArray.toList_eq, ByteArray.toList_eq]
  refine ⟨fun h => ?_, fun h => by rw [h]⟩
  obtain ⟨⟨x⟩⟩ := a
  obtain ⟨⟨y⟩⟩ := b
  simp at h
  rw [h]
theorem eqP_in (a b a' b' : Int) (w : World) : (Op.equalIn 9999 66 (.agg #[.int .i64 a, .int .i64 b]) (.agg #[.int .i64 a', .int .i64 b'])).run Tryz.prog w = .ok (decide (a = a' ∧ b = b')) w := by
  have u3 := Tryz.underlying3
  have a3 := Tryz.isAgg3
  have z3 := Tryz.sizeOf3
  have hS : Tryz.prog.underlying 66 = some (.struct (Tryz.prog.fieldsOf 66)) := by kernel_rfl
  have hp : Tryz.prog.stoodInHeld 66 = false := by kernel_rfl
  rw [show (9999 : Nat) = 9998 + 1 from rfl, run_equalIn_agg w 9998 66 _ _ hS hp]
  simp only [Program.fieldsOf, Tryz.underlying66]
  clear hS hp
  go_simp
  by_cases h1 : a = a' <;> by_cases h2 : b = b' <;> simp [h1, h2]
theorem eqT_in (x y : Tm) (w : World) : (Op.equalIn 10000 89 (.agg #[.int .i64 x.1, .string x.2.1, .int .i64 x.2.2.1, .int .i64 x.2.2.2]) (.agg #[.int .i64 y.1, .string y.2.1, .int .i64 y.2.2.1, .int .i64 y.2.2.2])).run Tryz.prog w = .ok (decide (x = y)) w := by
  have u3 := Tryz.underlying3
  have a3 := Tryz.isAgg3
  have z3 := Tryz.sizeOf3
  have u9 := Tryz.underlying9
  have a9 := Tryz.isAgg9
  have z9 := Tryz.sizeOf9
  have a25 := Tryz.isAgg66
  have z25 := Tryz.sizeOf66
  have hS : Tryz.prog.underlying 89 = some (.struct (Tryz.prog.fieldsOf 89)) := by kernel_rfl
  have hp : Tryz.prog.stoodInHeld 89 = false := by kernel_rfl
  have hV := eqP_in
  rw [show (10000 : Nat) = 9999 + 1 from rfl, run_equalIn_agg w 9999 89 _ _ hS hp]
  simp only [Program.fieldsOf, Tryz.underlying89]
  clear hS hp
  go_simp
  simp only [toList_inj]
  obtain ⟨k, n, a, b⟩ := x
  obtain ⟨k', n', a', b'⟩ := y
  by_cases hk : k = k' <;> by_cases h0 : n = n' <;> by_cases h1 : a = a' <;> by_cases h2 : b = b' <;> simp [hk, h0, h1, h2]

theorem listT_ne {xs ys : List Tm} {k : Nat} (hx : k < xs.length) (hy : k < ys.length) (h : xs[k] ≠ ys[k]) : xs ≠ ys := by
  intro e
  subst e
  exact h rfl
theorem takeT_same {xs ys : List Tm} {k : Nat} (hx : k < xs.length) (hy : k < ys.length) (h : xs[k] = ys[k]) (hp : xs.take k = ys.take k) : xs.take (k + 1) = ys.take (k + 1) := by
  rw [List.take_succ_eq_append_getElem hx, List.take_succ_eq_append_getElem hy, hp, h]

theorem size_f {n : Nat} (h : ¬ 200 < n) : decide (200 < (n : Int)) = false := decide_eq_false (by omega)
theorem size_t {n : Nat} (h : 200 < n) : decide (200 < (n : Int)) = true := decide_eq_true (by omega)
set_option maxHeartbeats 2000000 in
theorem heavyT_any (a : Option Addr) (len cap : Nat) (xs : List Tm) (w : World) (hrow : RowT w a xs) (hl : len ≤ xs.length) (hl' : xs.length ≤ len) :
    Calls Tryz.prog 9 #[.slice a len cap] w fun e w' => ((e = .returned (.bool true)) ∨ (e = .returned (.bool false) ∧ len ≤ 300 ∧ ∀ x ∈ xs, x.2.1.size ≤ 200)) ∧ Below w.heap.size w w' := by
  by_cases h110 : 300 < len
  · have d110 : decide (300 < (len : Int)) = true := by simp; omega
    go_enter Tryz.func9, Tryz.ntmps9
    go_wp2_with fail
    go_ret
    exact ⟨Or.inl rfl, Below.refl _ _⟩
  · have d110 : decide (300 < (len : Int)) = false := by simp; omega
    go_enter Tryz.func9, Tryz.ntmps9
    go_wp2_with fail
    go_loopw [3] (fun i wr => ∃ k : Nat, k ≤ len ∧ i = .int .i64 k ∧ Hid (∀ j (_ : j < xs.length), j < k → xs[j].2.1.size ≤ 200) ∧ Below w.heap.size w wr) (fun i _ => len - (intOf i).toNat)
    case atStart => exact ⟨0, Nat.zero_le _, rfl, hide (fun j _ h => by omega), Below.refl _ _⟩
    case round =>
      obtain ⟨k, hk, rfl, HK, hbw⟩ := hrel
      by_cases hlt : k < len
      · obtain ⟨b, o, ha, hbl, c0, c1, c2, c3⟩ := (hrow.on hbw).up (show k < xs.length by omega)
        subst ha
        by_cases h1 : 200 < xs[k].2.1.size
        · have d1 := size_t h1
          clear h1
          generalize xs[k] = x at c0 c1 c2 c3 d1
          go_wp2_with fail
          go_ret
          exact ⟨Or.inl rfl, hbw⟩
        · have d1 := size_f h1
          have HN : Hid (∀ j (_ : j < xs.length), j < k + 1 → xs[j].2.1.size ≤ 200) := by
            refine hide (fun j hj hjk => ?_)
            by_cases e : j < k
            · exact unhide HK j hj e
            · have : j = k := by omega
              subst this
              omega
          clear h1
          generalize xs[k] = x at c0 c1 c2 c3 d1
          go_wp2_with fail
          go_roundw
          case rel => exact ⟨k + 1, by omega, by go_num, HN, hbw⟩
          case measure => simp [intOf]; omega
      · have HN : Hid (∀ x ∈ xs, x.2.1.size ≤ 200) := by
          refine hide (fun x hx => ?_)
          obtain ⟨j, hj, rfl⟩ := List.getElem_of_mem hx
          exact unhide HK j hj (by omega)
        go_wp2_with fail
        go_ret
        exact ⟨Or.inr ⟨rfl, by omega, unhide HN⟩, hbw⟩
end Go.Proofs.YtcjnhhbcleljmaaGreatDoor
namespace Go.Proofs.YtcjnhhbcleljmaaGreatDoor
open Go.RowKit
open V

theorem wk_one : lexA rightK [112, 40, 88, 44, 45, 49, 41] 0 = .ok [(1, [112], 0), (5, [40], 1), (2, [88], 2), (5, [44], 3), (3, [45, 49], 4), (5, [41], 6)] := by kernel_rfl
theorem wk_two : lexA rightK [97, 10, 32, 63] 0 = .error 3 := by kernel_rfl
theorem wk_pos : posL [97, 10, 32, 63] 3 = (2, 2) := by kernel_rfl
/-- The signs of the first text as they lie. -/
def wkT : List Tm := [(1, ⟨#[112]⟩, 1, 1), (5, ⟨#[40]⟩, 1, 2), (2, ⟨#[88]⟩, 1, 3), (5, ⟨#[44]⟩, 1, 4), (3, ⟨#[45, 49]⟩, 1, 5), (5, ⟨#[41]⟩, 1, 7)]
theorem wk_map : ([(1, [112], 0), (5, [40], 1), (2, [88], 2), (5, [44], 3), (3, [45, 49], 4), (5, [41], 6)] : List Tk).map (tm [112, 40, 88, 44, 45, 49, 41]) = wkT := by kernel_rfl
theorem lex_ok (s : ByteArray) (ts : List Tk) (xs : List Tm) (w : World) (hs : s.size ≤ 20000) (he : Env w) (H : Hid (lexA rightK s.data.toList 0 = .ok ts)) (HX : Hid (ts.map (tm s.data.toList) = xs)) :
    Calls Tryz.prog 41 #[.string s] w fun e w' => (∃ a n c, e = .returned (.tuple #[.slice a n c, .agg #[.int .i64 0, .int .i64 0], .int .i64 0]) ∧ LiesT w' a n c xs) ∧ Below w.heap.size w w' := by
  refine (tokens_any s w hs he).mono ?_
  rintro e w' ⟨h, hb⟩
  unfold LexRes at h
  rw [unhide H] at h
  obtain ⟨a, n, c, rfl, ho⟩ := h
  rw [unhide HX] at ho
  obtain ⟨a', n', c', e1, hl⟩ := ho.slice
  cases e1
  exact ⟨⟨a, n, c, rfl, hl⟩, hb⟩
theorem lex_err (s : ByteArray) (q a b : Nat) (w : World) (hs : s.size ≤ 20000) (he : Env w) (H : Hid (lexA rightK s.data.toList 0 = .error q)) (HP : Hid (posL s.data.toList q = (a, b))) :
    Calls Tryz.prog 41 #[.string s] w fun e w' => e = .returned (.tuple #[.slice none 0 0, .agg #[.int .i64 a, .int .i64 b], .int .i64 6]) ∧ Below w.heap.size w w' := by
  refine (tokens_any s w hs he).mono ?_
  rintro e w' ⟨h, hb⟩
  unfold LexRes at h
  rw [unhide H] at h
  have h' : e = .returned (.tuple #[.slice none 0 0, .agg #[.int .i64 (posL s.data.toList q).1, .int .i64 (posL s.data.toList q).2], .int .i64 6]) := h
  rw [unhide HP] at h'
  exact ⟨h', hb⟩
theorem wk_join : joinT (wkT.take 2) = [112, 32, 40] := by kernel_rfl

end Go.Proofs.YtcjnhhbcleljmaaGreatDoor

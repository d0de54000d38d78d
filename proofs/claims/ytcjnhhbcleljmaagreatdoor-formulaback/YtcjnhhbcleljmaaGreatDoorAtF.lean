/- What atoms.Text answers. -/
import Derived.Test.YtcjnhhbcleljmaaGreatDoorAtA
import Derived.Test.YtcjnhhbcleljmaaGreatDoorAtoI
import Derived.Test.YtcjnhhbcleljmaaGreatDoorBasE
import Derived.Test.YtcjnhhbcleljmaaGreatDoorLexZd
namespace Go.Proofs.YtcjnhhbcleljmaaGreatDoor.Sb
open Go.RowKit
open V

theorem right_same (n : ByteArray) (ts : List Bb) : rightA n ts = V.rightA (n.data.toList, ts) := rfl
theorem right_parts {n : ByteArray} {ts : List Bb} (h : rightA n ts = true) : n.size ≤ 24 ∧ ts.length ≤ 5 ∧ ∀ t ∈ ts, rightT t = true := by
  rw [right_same] at h
  simp only [V.rightA, nameB, Bool.and_eq_true, decide_eq_true_eq, List.all_eq_true] at h
  obtain ⟨⟨h1, _⟩, h2, h3⟩ := h
  have := sym_len h1
  rw [size_list] at this
  exact ⟨this, h2, h3⟩

set_option maxHeartbeats 2000000 in
set_option maxRecDepth 100000 in
theorem writeStr_box (B b : Nat) (bs : List Value) (s : ByteArray) (w : World) (gg : Nat) (ob : Obj) (h : Lib.IsBuilder 197 5 B b bs w) (hg : w.heap[gg]? = some ob) (hgb : gg ≠ b) (hgv : ∀ v, w.cell? ⟨b, 1, none⟩ = some v → v.ownBlock ≠ some gg) (hlen : bs.length + s.size ≤ 140737488355328) (hBw : B ≤ w.heap.size) :
    Calls Tryz.prog 151 #[.pointer (some ⟨b, 0, none⟩), .string s] w fun e w' => e = .returned (.tuple #[.int .i64 s.size, .nilIface]) ∧ (Lib.BuilderAt 197 5 B b (.pointer (some ⟨b, 0, none⟩)) (bs ++ Lib.strCells s) w' ∧ Below B w w' ∧ w'.heap[gg]? = some ob) := by
  obtain ⟨i0, hi, hz0, hz1, hz2⟩ := info_parts infoByte
  go_enter Tryz.func151, Tryz.ntmps151
  go_wp2_with (go_at_call 189; refine (copyCheck_kept B b bs _ h).mono ?_)
  rintro e w1 ⟨rfl, h1, hb1, hk1', hc1'⟩
  have hk1 := hide hk1'
  have hc1 := hide hc1'
  clear hk1' hc1'
  obtain ⟨hB, v, hbk, hown, hne⟩ := h1
  have c0 : w1.cell? ⟨b, 0, none⟩ = some (.pointer (some ⟨b, 0, none⟩)) := by rw [Lib.cell_of_heap hbk]; rfl
  have c1 : w1.cell? ⟨b, 1, none⟩ = some v := by rw [Lib.cell_of_heap hbk]; rfl
  go_wp2_with (at_builtin; refine Lib.wpList_append_own_string _ rfl _ _ 174 9 rfl B 5 i0 Tryz.underlying174 Tryz.underlying9 hi hz0 hz1 hz2 _ _ _ rfl hown s rfl ?c3 ?c4 ?c5 ?_)
  case c3 => unfold maxLen; omega
  case c4 => omega
  case c5 => have := hb1.size; omega
  intro v' w2 hown' hgrow _
  have hlt : b < w1.heap.size := by
    rcases Nat.lt_or_ge b w1.heap.size with h' | h'
    · exact h'
    · simp [Array.getElem?_eq_none h'] at hbk
  have hb2 : w2.heap[b]? = some (.cells #[.pointer (some ⟨b, 0, none⟩), v] 197 (0, 0)) := by
    rw [hgrow.block b hlt (fun e => hne e.symm)]
    exact hbk
  have d0 : w2.cell? ⟨b, 0, none⟩ = some (.pointer (some ⟨b, 0, none⟩)) := by rw [Lib.cell_of_heap hb2]; rfl
  have d1 : w2.cell? ⟨b, 1, none⟩ = some v := by rw [Lib.cell_of_heap hb2]; rfl
  have f1 : w2.frozen? ⟨b, 1, none⟩ = false := Lib.frozen_of_heap hb2 1
  obtain ⟨ao, n', cap, rfl⟩ : ∃ ao n' cap, v' = .slice ao n' cap := by
    rcases hown'.2 with ⟨hv, _⟩ | ⟨g, cap, cur, hv, _⟩
    · exact ⟨_, _, _, hv⟩
    · exact ⟨_, _, _, hv⟩
  go_wp2
  go_ret2
  have hg1 : w1.heap[gg]? = some ob := by rw [unhide hk1 gg hgb]; exact hg
  have hglt : gg < w1.heap.size := (Array.getElem?_eq_some_iff.1 hg1).1
  have hvg : v.ownBlock ≠ some gg := hgv v ((unhide hc1).symm.trans c1)
  refine ⟨rfl, ?_, ?_, ?_⟩
  · exact Lib.BuilderAt.put (T := 197) (e := 5) hB hb2 (bs' := bs ++ Lib.strCells s) (by simpa [Lib.strCells_length] using hown') (by decide)
  · exact (hb1.grown hgrow (by have := hb1.size; omega) (fun k hk => (hown.lt k hk).1)).setCell (p := ⟨b, 1, none⟩) hB _
  · rw [Below.heap_setCell _ ⟨b, 1, none⟩ _ gg hgb, hgrow.block gg hglt (fun e => hvg e.symm)]
    exact hg1

/-- WriteString, a box just laid beside it. -/
theorem writeStr_new (B b : Nat) (l : List UInt8) (s : ByteArray) (w : World) (ob : Obj) (h : Lib.IsBuilder 197 5 B b (Lib.byteCells l) w) (hlen : l.length + s.size ≤ 140737488355328) (hBw : B ≤ w.heap.size) :
    Calls Tryz.prog 151 #[.pointer (some ⟨b, 0, none⟩), .string s] (w.alloc ob) fun e w' => e = .returned (.tuple #[.int .i64 s.size, .nilIface]) ∧ Lib.IsBuilder 197 5 B b (Lib.byteCells (l ++ s.data.toList)) w' ∧ Below B w w' ∧ B ≤ w'.heap.size ∧ w'.heap[w.heap.size]? = some ob := by
  have hbl : Below w.heap.size w (w.alloc ob) := (Below.refl _ _).alloc (Nat.le_refl _) _
  have hv : b < w.heap.size ∧ ∀ v, (w.alloc ob).cell? ⟨b, 1, none⟩ = some v → v.ownBlock ≠ some w.heap.size := by
    have key : ∀ (p : Value), Lib.BuilderAt 197 5 B b p (Lib.byteCells l) w → b < w.heap.size ∧ ∀ v, (w.alloc ob).cell? ⟨b, 1, none⟩ = some v → v.ownBlock ≠ some w.heap.size := by
      rintro p ⟨_, v0, hb0, ho, _⟩
      have hlt := (Array.getElem?_eq_some_iff.1 hb0).1
      refine ⟨hlt, fun v hc e => ?_⟩
      have hb1 : (w.alloc ob).heap[b]? = _ := (Lib.alloc_old w ob b hlt).trans hb0
      rw [Lib.cell_of_heap hb1] at hc
      have : v0 = v := by simpa using hc
      subst this
      have := (ho.lt _ e).2
      omega
    rcases h with h | h
    · exact key _ h
    · exact key _ h
  refine (writeStr_box B b (Lib.byteCells l) s (w.alloc ob) w.heap.size ob (builder_on h hbl) (heap_alloc_new w ob) (by omega) hv.2 (by simpa [Lib.byteCells] using hlen) (by simp; omega)).mono ?_
  rintro e w' ⟨rfl, h1, hb, hk⟩
  refine ⟨rfl, Or.inr ?_, ((Below.refl B w).alloc hBw ob).trans hb, by have := hb.size; simp at this; omega, hk⟩
  rw [Lib.byteCells_append]; exact h1

set_option maxHeartbeats 1000000 in
set_option maxRecDepth 100000 in
theorem text_wrong (n : ByteArray) (a : Option Addr) (len cap : Nat) (ts : List Bb) (w : World) (hA : Lies w a len cap ts) (hn : n.size ≤ 200) (hv : ∀ t ∈ ts, Lt t) (h20 : len ≤ 20000) (H : Hid (rightA n ts = false)) :
    Calls Tryz.prog 95 #[.agg #[.string n, .slice a len cap]] w fun e w' => e = .returned (.tuple #[.string ⟨#[]⟩, .int .i64 1]) ∧ Below w.heap.size w w' := by
  have hb0 : Below w.heap.size w (w.alloc (bxA n a len cap)) := (Below.refl _ _).alloc (Nat.le_refl _) _
  have hA0 := hA.on hb0
  have hc := acheck_any n a len cap ts (w.alloc (bxA n a len cap)) hn hv hA0.row hA0.le hA0.ge h20
  rw [unhide H] at hc
  clear hA hA0 hv H
  obtain ⟨c0, c1⟩ := pair_of (heap_alloc_new w (bxA n a len cap))
  go_enter Tryz.func95, Tryz.ntmps95
  go_wp2_with fail
  refine hc.mono ?_
  rintro e w1 ⟨rfl, hb1⟩
  clear hc c0 c1
  rw [show chk false = 1 from rfl]
  go_wp2_with fail
  refine bodyPost_ret (v := .tuple #[.string ⟨#[]⟩, .int .i64 1]) (by simp [results, Tryz.results95, go_sem]) rfl ?_
  exact ⟨rfl, bt hb0 hb1⟩

set_option maxHeartbeats 2000000 in
set_option maxRecDepth 100000 in
theorem text_right (n : ByteArray) (a : Option Addr) (len cap : Nat) (ts : List Bb) (s : ByteArray) (w : World) (he : Env w) (hA : Lies w a len cap ts) (H : Hid (rightA n ts = true)) (HS : Hid ((⟨(textA (n.data.toList, ts)).toArray⟩ : ByteArray) = s)) :
    Calls Tryz.prog 95 #[.agg #[.string n, .slice a len cap]] w fun e w' => e = .returned (.tuple #[.string s, .int .i64 0]) ∧ Below w.heap.size w w' := by
  have hb0 : Below w.heap.size w (w.alloc (bxA n a len cap)) := (Below.refl _ _).alloc (Nat.le_refl _) _
  have hA0 := hA.on hb0
  obtain ⟨hn, h5, hrt⟩ := right_parts (unhide H)
  have hl1 := hA.le
  have hl2 := hA.ge
  have hc := acheck_any n a len cap ts (w.alloc (bxA n a len cap)) (by omega) (fun t ht => lt_right (hrt t ht)) hA0.row hA0.le hA0.ge (by omega)
  rw [unhide H] at hc
  have HR := hide hrt
  clear H hrt
  obtain ⟨c0, c1⟩ := pair_of (heap_alloc_new w (bxA n a len cap))
  go_enter Tryz.func95, Tryz.ntmps95
  go_wp2_with fail
  refine hc.mono ?_
  rintro e w1 ⟨rfl, hb1⟩
  clear hc
  rw [show chk true = 0 from rfl]
  have hI0 := Lib.fresh_isBuilder 197 5 w1
  have hbW : Below w1.heap.size w1 (w1.alloc (.cells #[.pointer none, .slice none 0 0] 197)) := (Below.refl _ _).alloc (Nat.le_refl _) _
  have hB0 : w1.heap.size ≤ (w1.alloc (.cells #[.pointer none, .slice none 0 0] 197)).heap.size := by simp
  have d0 := cell_on hbW (cell_on hb1 c0)
  have d1 := cell_on hbW (cell_on hb1 c1)
  have hs1 : w.heap.size < w1.heap.size := by have := hb1.size; simp at this; omega
  clear c0 c1
  go_wp2_with fail
  generalize w1.alloc (.cells #[.pointer none, .slice none 0 0] 197) = W at hI0 hbW hB0 d0 d1 ⊢
  refine (writeStr_at w1.heap.size w1.heap.size [] n _ hI0 (by simp; omega) hB0).mono ?_
  rintro e w2 ⟨rfl, hI2, hb2, hB2⟩
  have e1 := (hb2.cell (p := ⟨w.heap.size, 1, none⟩) hs1).trans d1
  have hbw2 := bt hb0 (bt hb1 (hbW.trans hb2))
  clear d0 d1 hI0 hb2 hbW
  rw [List.nil_append] at hI2
  go_wp2_with fail
  go_loopw [6, 20] (fun h i wr => ∃ (k : Nat) (z : ByteArray), k ≤ len ∧ i = .int .i64 k ∧ h = .string z ∧ Hid (z.data.toList = aheadL k) ∧ z.size ≤ 2 ∧ Lib.IsBuilder 197 5 w1.heap.size w1.heap.size (Lib.byteCells (n.data.toList ++ upL (ts.take k))) wr ∧ Below w.heap.size w wr ∧ w1.heap.size ≤ wr.heap.size ∧ wr.cell? ⟨w.heap.size, 1, none⟩ = some (.slice a len cap)) (fun _ i _ => len - (intOf i).toNat)
  case atStart => exact ⟨0, ⟨#[40]⟩, Nat.zero_le _, rfl, rfl, hide rfl, by decide, by simpa [upL] using hI2, hbw2, hB2, e1⟩
  case round =>
    obtain ⟨k, z, hk, rfl, rfl, HZ, hz2, hI, hbw, hBw, hce⟩ := hrel
    by_cases hlt : k < len
    · obtain ⟨b, o, ha, hbl, x0, x1, x2, x3⟩ := (hA.row.on hbw).up (show k < ts.length by omega)
      subst ha
      have hrt := hide (unhide HR ts[k] (List.getElem_mem (by omega)))
      have HT : Hid (n.data.toList ++ upL (ts.take (k + 1)) = n.data.toList ++ upL (ts.take k) ++ z.data.toList ++ bytesT ts[k]) := by
        refine hide ?_
        rw [upL_next (show k < ts.length by omega), unhide HZ]
        simp
      have hup := upL_len (ts := ts.take k) (fun t ht => unhide HR t (List.mem_of_mem_take ht))
      have hup5 : (upL (ts.take k)).length ≤ 700 := by
        have : (ts.take k).length ≤ 5 := by simp; omega
        omega
      have hby := term_len (unhide hrt)
      clear hup
      generalize ts[k] = t at x0 x1 x2 x3 hrt HT hby
      obtain ⟨z', hz'⟩ : ∃ z' : ByteArray, z' = ⟨(bytesT t).toArray⟩ := ⟨_, rfl⟩
      have hzl : z'.size = (bytesT t).length := by rw [hz']; rfl
      have HB : Hid (z'.data.toList = bytesT t) := hide (by rw [hz'])
      have HZ' := hide hz'.symm
      have hl1' : (n.data.toList ++ upL (ts.take k)).length + z.size ≤ 1000 := by rw [List.length_append, size_list]; omega
      have hl2' : (n.data.toList ++ upL (ts.take k) ++ z.data.toList).length + z'.size ≤ 2000 := by
        rw [List.length_append, List.length_append, size_list, size_list]; omega
      clear hup5 hby hzl hz'
      go_wp2_with fail
      refine (writeStr_new w1.heap.size w1.heap.size _ z wr (bxT t) hI (by omega) hBw).mono ?_
      rintro e w3 ⟨rfl, hI3, hb3, hB3, hbox⟩
      obtain ⟨y0, y1, y2, y3⟩ := quadT hbox
      have hbw3 := hbw.trans (hb3.mono (by omega))
      have hce3 := (hb3.cell (p := ⟨w.heap.size, 1, none⟩) hs1).trans hce
      clear x0 x1 x2 x3 hI hb3 hce
      go_wp2_with fail
      refine (termText_any t z' w3 (he.on hbw3) hrt HZ').mono ?_
      rintro e w4 ⟨rfl, hb4⟩
      have hI4 := builder_on hI3 hb4
      have hbw4 := bt hbw3 hb4
      have hB4 : w1.heap.size ≤ w4.heap.size := by have := hb4.size; omega
      have hce4 := cell_on hb4 hce3
      clear y0 y1 y2 y3 hI3 hb4 hce3
      go_wp2_with fail
      refine (writeStr_at w1.heap.size w1.heap.size _ z' w4 hI4 (by omega) hB4).mono ?_
      rintro e w5 ⟨rfl, hI5, hb5, hB5⟩
      have hbw5 := hbw4.trans (hb5.mono (by omega))
      rw [unhide HB, ← unhide HT] at hI5
      have hce5 := (hb5.cell (p := ⟨w.heap.size, 1, none⟩) hs1).trans hce4
      clear hI4 hb5 hce4
      go_wp2_with fail
      go_roundw
      case rel => exact ⟨k + 1, ⟨#[44, 32]⟩, by omega, by go_num, rfl, hide (by unfold aheadL; rw [if_neg (by omega)]), by decide, hI5, hbw5, hB5, hce5⟩
      case measure => simp [intOf]; omega
    · have HE : Hid (ts.take k = ts) := hide (List.take_of_length_le (by omega))
      rw [unhide HE] at hI
      have hup := upL_len (ts := ts) (unhide HR)
      have hl1' : (n.data.toList ++ upL ts).length + 1 ≤ 1000 := by rw [List.length_append, size_list]; omega
      clear hup HZ
      by_cases h0 : len = 0
      · have HX : Hid ((⟨(n.data.toList ++ upL ts).toArray⟩ : ByteArray) = s) := hide (by rw [← unhide HS, textA_up, if_pos (by omega)]; simp)
        have h00 : ¬ 0 < len := by omega
        clear HS h0
        go_wp2_with (go_at_call 152; refine (Tryz.Builder_String_any w1.heap.size w1.heap.size (n.data.toList ++ upL ts) _ hI hBw).mono ?_; rintro e w3 ⟨rfl, hb3⟩)
        rw [unhide HX]
        refine bodyPost_ret (v := .tuple #[.string s, .int .i64 0]) (by simp [results, Tryz.results95, go_sem]) rfl ?_
        exact ⟨rfl, hbw.trans (hb3.mono (by omega))⟩
      · have HX : Hid ((⟨(n.data.toList ++ (upL ts ++ [41])).toArray⟩ : ByteArray) = s) := hide (by rw [← unhide HS, textA_up, if_neg (by omega)])
        have h00 : 0 < len := by omega
        clear HS h0
        go_wp2_with (go_at_call 154; refine (writeByte_at w1.heap.size w1.heap.size _ 41 _ (by rfl) _ hI (by omega) hBw).mono ?_; rintro e w3 ⟨rfl, hI3, hb3, hB3⟩)
        go_wp2_with (go_at_call 152; refine (Tryz.Builder_String_any w1.heap.size w1.heap.size (n.data.toList ++ upL ts ++ [41]) _ hI3 hB3).mono ?_; rintro e w4 ⟨rfl, hb4⟩)
        rw [unhide HX]
        refine bodyPost_ret (v := .tuple #[.string s, .int .i64 0]) (by simp [results, Tryz.results95, go_sem]) rfl ?_
        exact ⟨rfl, hbw.trans ((hb3.trans hb4).mono (by omega))⟩
end Go.Proofs.YtcjnhhbcleljmaaGreatDoor.Sb

/- What (*strings.Builder).WriteString and fact.Text answer. -/
import Derived.Test.YtbdfdpioegjfhaaDoorFactD
import Derived.Lib.AppendStr
namespace Go.Proofs.YtbdfdpioegjfhaaDoor
open Go.RowKit
open V

set_option maxHeartbeats 2000000 in
set_option maxRecDepth 100000 in
theorem writeStr_any (B b : Nat) (bs : List Value) (s : ByteArray) (w : World) (h : Lib.IsBuilder 49 5 B b bs w) (hlen : bs.length + s.size ≤ 140737488355328) (hBw : B ≤ w.heap.size) :
    Calls Tryd.prog 21 #[.pointer (some ⟨b, 0, none⟩), .string s] w fun e w' => e = .returned (.tuple #[.int .i64 s.size, .nilIface]) ∧ (Lib.BuilderAt 49 5 B b (.pointer (some ⟨b, 0, none⟩)) (bs ++ Lib.strCells s) w' ∧ Below B w w') := by
  obtain ⟨i0, hi, hz0, hz1, hz2⟩ := info_parts infoByte
  go_enter Tryd.func21, Tryd.ntmps21
  go_wp2_with (go_at_call 40; refine (copyCheck_any B b bs _ h).mono ?_)
  rintro e w1 ⟨rfl, h1, hb1⟩
  obtain ⟨hB, v, hbk, hown, hne⟩ := h1
  have c0 : w1.cell? ⟨b, 0, none⟩ = some (.pointer (some ⟨b, 0, none⟩)) := by rw [Lib.cell_of_heap hbk]; rfl
  have c1 : w1.cell? ⟨b, 1, none⟩ = some v := by rw [Lib.cell_of_heap hbk]; rfl
  go_wp2_with (at_builtin; refine Lib.wpList_append_own_string _ rfl _ _ 47 9 rfl B 5 i0 Tryd.underlying47 Tryd.underlying9 hi hz0 hz1 hz2 _ _ _ rfl hown s rfl ?c3 ?c4 ?c5 ?_)
  case c3 => unfold maxLen; omega
  case c4 => omega
  case c5 => have := hb1.size; omega
  intro v' w2 hown' hgrow _
  have hlt : b < w1.heap.size := by
    rcases Nat.lt_or_ge b w1.heap.size with h' | h'
    · exact h'
    · simp [Array.getElem?_eq_none h'] at hbk
  have hb2 : w2.heap[b]? = some (.cells #[.pointer (some ⟨b, 0, none⟩), v] 49 (0, 0)) := by
    rw [hgrow.block b hlt (fun e => hne e.symm)]
    exact hbk
  have d0 : w2.cell? ⟨b, 0, none⟩ = some (.pointer (some ⟨b, 0, none⟩)) := by rw [Lib.cell_of_heap hb2]; rfl
  have d1 : w2.cell? ⟨b, 1, none⟩ = some v := by rw [Lib.cell_of_heap hb2]; rfl
  have f1 : w2.frozen? ⟨b, 1, none⟩ = false := Lib.frozen_of_heap hb2 1
  obtain ⟨ao, n', cap, rfl⟩ : ∃ ao n' cap, v' = .slice ao n' cap := by
    rcases hown'.2 with ⟨hv, _⟩ | ⟨g, cap, cur, hv, _⟩
    · exact ⟨_, _, _, hv⟩
    · exact ⟨_, _, _, hv⟩
  go_wp2
  go_ret2
  refine ⟨rfl, ?_, ?_⟩
  · exact Lib.BuilderAt.put (T := 49) (e := 5) hB hb2 (bs' := bs ++ Lib.strCells s) (by simpa [Lib.strCells_length] using hown') (by decide)
  · exact (hb1.grown hgrow (by have := hb1.size; omega) (fun k hk => (hown.lt k hk).1)).setCell (p := ⟨b, 1, none⟩) hB _

/-- WriteString over bytes: the builder holds the text's bytes besides. -/
theorem writeStr_at (B b : Nat) (l : List UInt8) (s : ByteArray) (w : World) (h : Lib.IsBuilder 49 5 B b (Lib.byteCells l) w) (hlen : l.length + s.size ≤ 140737488355328) (hBw : B ≤ w.heap.size) :
    Calls Tryd.prog 21 #[.pointer (some ⟨b, 0, none⟩), .string s] w fun e w' => e = .returned (.tuple #[.int .i64 s.size, .nilIface]) ∧ Lib.IsBuilder 49 5 B b (Lib.byteCells (l ++ s.data.toList)) w' ∧ Below B w w' ∧ B ≤ w'.heap.size := by
  refine (writeStr_any B b (Lib.byteCells l) s w h (by simpa [Lib.byteCells] using hlen) hBw).mono ?_
  rintro e w' ⟨rfl, h1, hb⟩
  refine ⟨rfl, Or.inr ?_, hb, by have := hb.size; omega⟩
  rw [Lib.byteCells_append]; exact h1

theorem own_on {w w' : World} {B e size n : Nat} {v : Value} {xs : List Value} (h : w.ownsRow B e size v n xs) (hb : Below w.heap.size w w') : w'.ownsRow B e size v n xs := by
  refine ⟨h.1, ?_⟩
  rcases h.2 with hn | ⟨g, cap, cur, rfl, hg, hgg, rest⟩
  · exact .inl hn
  · exact .inr ⟨g, cap, cur, rfl, hg, by rw [hb.block g (Array.getElem?_eq_some_iff.1 hgg).1]; exact hgg, rest⟩
theorem builderAt_on {w w' : World} {T e : TypeId} {B b : Nat} {p : Value} {bs : List Value} (h : Lib.BuilderAt T e B b p bs w) (hb : Below w.heap.size w w') : Lib.BuilderAt T e B b p bs w' := by
  obtain ⟨h0, v, h1, h2, h3⟩ := h
  exact ⟨h0, v, by rw [hb.block b (Array.getElem?_eq_some_iff.1 h1).1]; exact h1, own_on h2 hb, h3⟩
theorem builder_on {w w' : World} {T e : TypeId} {B b : Nat} {bs : List Value} (h : Lib.IsBuilder T e B b bs w) (hb : Below w.heap.size w w') : Lib.IsBuilder T e B b bs w' := by
  rcases h with h | h
  · exact Or.inl (builderAt_on h hb)
  · exact Or.inr (builderAt_on h hb)

theorem text_le {k n : Int} {r : List UInt8} (h : rightB k n r = true) : (textL k n r).length ≤ 122 := by
  have hv := parseL_text h
  unfold parseL at hv
  cases hx : valL (textL k n r) with
  | none => rw [hx] at hv; simp at hv
  | some t =>
    unfold valL at hx
    split at hx
    · cases hx
    · split at hx
      · cases hx
      · omega

theorem joinL_snoc (u : List UInt8) (xs : List Vl) (v : Vl) : joinL u (xs ++ [v]) = joinL u xs ++ ((if xs = [] then u else [44, 32]) ++ textL v.1 v.2.1 v.2.2) := by
  induction xs generalizing u with
  | nil => simp [joinL]
  | cons x r ih =>
    simp only [List.cons_append, joinL, ih, List.append_assoc]
    cases r <;> simp
theorem join_take {vs : List Vb} {k : Nat} (hk : k < vs.length) (u : List UInt8) :
    joinL u ((vs.take (k + 1)).map Vb.l) = joinL u ((vs.take k).map Vb.l) ++ ((if k = 0 then u else [44, 32]) ++ textL vs[k].k vs[k].n vs[k].s.data.toList) := by
  rw [List.take_succ_eq_append_getElem hk, List.map_append, List.map_singleton, joinL_snoc]
  congr 2
  cases k with
  | zero => simp
  | succ k => cases vs with
    | nil => simp at hk
    | cons v r => simp

set_option maxHeartbeats 1000000 in
theorem ftext_bad (n : ByteArray) (a : Option Addr) (len cap : Nat) (vs : List Vb) (w : World) (hn : n.size ≤ 200) (hv : ∀ v ∈ vs, v.s.size ≤ 200) (hrow : RowV w a vs) (hl : len ≤ vs.length) (hl' : vs.length ≤ len) (h20 : len ≤ 20) (hr : rightF (n.data.toList, vs.map Vb.l) = false) :
    Calls Tryd.prog 9 #[.agg #[.string n, .slice a len cap]] w fun e w' => e = .returned (.tuple #[.string ⟨#[]⟩, .int .i64 1]) ∧ Below w.heap.size w w' := by
  have hc := chk_f hr
  have hby : Below w.heap.size w (w.alloc (.cells #[.string n, .slice a len cap] 24)) := (Below.refl _ _).alloc (Nat.le_refl _) _
  go_enter Tryd.func9, Tryd.ntmps9
  go_wp2_with (go_at_call 18; refine (fcheck_any _ _ _ _ vs _ hn hv (hrow.on hby) hl hl' h20).mono ?_; rintro e w1 ⟨rfl, hb⟩; rw [hc])
  go_ret2
  exact ⟨rfl, below_box hb⟩

theorem vtext_ok (v : Vb) (w : World) (hs : v.s.size ≤ 200) (he : Env w) (hr : rightV v.l = true) :
    Calls Tryd.prog 22 #[.agg #[.int .i64 v.k, .int .i64 v.n, .string v.s]] w fun e w' => e = .returned (.tuple #[.string ⟨(textL v.k v.n v.s.data.toList).toArray⟩, .int .i64 0]) ∧ Below w.heap.size w w' :=
  text_ok _ _ _ w (by omega) he hr

set_option maxHeartbeats 2000000 in
theorem ftext_ok (n : ByteArray) (a : Option Addr) (len cap : Nat) (vs : List Vb) (w : World) (he : Env w) (hn : n.size ≤ 200) (hv : ∀ v ∈ vs, v.s.size ≤ 200) (hrow : RowV w a vs) (hl : len ≤ vs.length) (hl' : vs.length ≤ len) (h20 : len ≤ 20) (hr : rightF (n.data.toList, vs.map Vb.l) = true) :
    Calls Tryd.prog 9 #[.agg #[.string n, .slice a len cap]] w fun e w' => e = .returned (.tuple #[.string ⟨(textF (n.data.toList, vs.map Vb.l)).toArray⟩, .int .i64 0]) ∧ Below w.heap.size w w' := by
  have hc := chk_t hr
  have hright : ∀ v ∈ vs, rightV v.l = true := by
    have h2 : (vs.map Vb.l).all rightV = true := by
      simp only [rightF, Bool.and_eq_true] at hr
      exact hr.2.2
    intro v hm
    exact List.all_eq_true.1 h2 v.l (List.mem_map.2 ⟨v, hm, rfl⟩)
  have h5 : len ≤ 5 := by
    simp only [rightF, Bool.and_eq_true, decide_eq_true_eq, List.length_map] at hr
    omega
  have hnl : n.data.toList.length ≤ 200 := by simpa using hn
  clear hr
  have hby : Below w.heap.size w (w.alloc (.cells #[.string n, .slice a len cap] 24)) := (Below.refl _ _).alloc (Nat.le_refl _) _
  have k0 : (w.alloc (.cells #[.string n, .slice a len cap] 24)).cell? ⟨w.heap.size, 0, none⟩ = some (.string n) := by rw [Lib.cell_of_heap (heap_alloc_new w _)]; rfl
  have k1 : (w.alloc (.cells #[.string n, .slice a len cap] 24)).cell? ⟨w.heap.size, 1, none⟩ = some (.slice a len cap) := by rw [Lib.cell_of_heap (heap_alloc_new w _)]; rfl
  have hsz : w.heap.size < (w.alloc (.cells #[.string n, .slice a len cap] 24)).heap.size := by simp
  go_enter Tryd.func9, Tryd.ntmps9
  go_wp2_with (go_at_call 18; refine (fcheck_any _ _ _ _ vs _ hn hv (hrow.on hby) hl hl' h20).mono ?_; rintro e w1 ⟨rfl, hb⟩; rw [hc]; refine Hid.out ?_)
  refine Lib.hid ?_
  have m0 : w1.cell? ⟨w.heap.size, 0, none⟩ = some (.string n) := (hb.cell (p := ⟨_, _, none⟩) hsz).trans k0
  have m1 : w1.cell? ⟨w.heap.size, 1, none⟩ = some (.slice a len cap) := (hb.cell (p := ⟨_, _, none⟩) hsz).trans k1
  have hw1 : Below w.heap.size w w1 := bt hby hb
  have hs1 : w.heap.size < w1.heap.size := by have := hb.size; omega
  clear k0 k1 hb hby hsz
  have hB : Below w1.heap.size w1 (w1.alloc (.cells #[.pointer none, .slice none 0 0] 49)) := (Below.refl _ _).alloc (Nat.le_refl _) _
  have p0 : (w1.alloc (.cells #[.pointer none, .slice none 0 0] 49)).cell? ⟨w.heap.size, 0, none⟩ = some (.string n) := (hB.cell (p := ⟨_, _, none⟩) hs1).trans m0
  go_wp2_with (go_at_call 21; refine (writeStr_at w1.heap.size w1.heap.size [] _ _ (Lib.fresh_isBuilder 49 5 w1) (by simp; omega) (by simp)).mono ?_; rintro e w2 ⟨rfl, h2, hb2, hB2⟩; refine Hid.out ?_)
  refine Lib.hid ?_
  have hb12 : Below w1.heap.size w1 w2 := hB.trans hb2
  have q1 : w2.cell? ⟨w.heap.size, 1, none⟩ = some (.slice a len cap) := (hb12.cell (p := ⟨_, _, none⟩) hs1).trans m1
  have h2' : Lib.IsBuilder 49 5 w1.heap.size w1.heap.size (Lib.byteCells (n.data.toList ++ joinL [40] ((vs.take 0).map Vb.l))) w2 := by simpa [joinL] using h2
  clear hB p0 hb2 h2 m0 hc
  go_wp2_with fail
  go_loopw [6, 8, 9, 10, 22] (fun ah _ _ _ i wr => ∃ (k : Nat) (ab : ByteArray), k ≤ len ∧ i = .int .i64 k ∧ ah = .string ab ∧ Hid (ab.data.toList = if k = 0 then [40] else [44, 32]) ∧ (n.data.toList ++ joinL [40] ((vs.take k).map Vb.l)).length ≤ 200 + 124 * k ∧ Lib.IsBuilder 49 5 w1.heap.size w1.heap.size (Lib.byteCells (n.data.toList ++ joinL [40] ((vs.take k).map Vb.l))) wr ∧ Below w1.heap.size w1 wr) (fun _ _ _ _ i _ => len - (intOf i).toNat)
  case atStart => exact ⟨0, ⟨#[40]⟩, Nat.zero_le _, rfl, rfl, hide rfl, by simpa [joinL] using hn, h2', hb12⟩
  case round =>
    obtain ⟨k, ab, hk, rfl, rfl, HA, hlenk, hI, hbw⟩ := hrel
    have hww : Below w.heap.size w wr := bt hw1 hbw
    have r1 : wr.cell? ⟨w.heap.size, 1, none⟩ = some (.slice a len cap) := (hbw.cell (p := ⟨_, _, none⟩) hs1).trans m1
    by_cases hlt : k < len
    · obtain ⟨b, o, ha, hbl, c0, c1, c2⟩ := (hrow.on hww).up (show k < vs.length by omega)
      subst ha
      have hsz := hv vs[k] (List.getElem_mem (by omega))
      have hrt := hright vs[k] (List.getElem_mem (by omega))
      have htl : (textL vs[k].k vs[k].n vs[k].s.data.toList).length ≤ 122 := text_le hrt
      have HJ := hide (join_take (show k < vs.length by omega) [40])
      have hab : ab.size ≤ 2 := by
        have h := unhide HA
        have : ab.size = ab.data.toList.length := by simp
        rw [this, h]; split <;> simp
      have hal : Below wr.heap.size wr (wr.alloc (.cells #[.int .i64 vs[k].k, .int .i64 vs[k].n, .string vs[k].s] 44)) := (Below.refl _ _).alloc (Nat.le_refl _) _
      have hI1 := builder_on hI hal
      have he1 := he.on (bt hww hal)
      have hbw1 := bt hbw hal
      go_wp2_with (go_at_call 22; refine (vtext_ok _ _ hsz he1 hrt).mono ?_; rintro e w3 ⟨rfl, hb3⟩; refine Hid.out ?_)
      refine Lib.hid ?_
      have hI2 := builder_on hI1 hb3
      have hbw3 := bt hbw1 hb3
      generalize hL : n.data.toList ++ joinL [40] ((vs.take k).map Vb.l) = L at hI2 hlenk
      have HL := hide hL
      generalize hT : textL vs[k].k vs[k].n vs[k].s.data.toList = T at htl ⊢
      have HT := hide hT
      clear hL hT hI hI1 he1
      go_wp2_with (go_at_call 21; refine (writeStr_at w1.heap.size w1.heap.size L ab _ hI2 (by omega) hbw3.size).mono ?_; rintro e w4 ⟨rfl, h4, hb4, hB4⟩; refine Hid.out ?_)
      refine Lib.hid ?_
      have hts : (⟨T.toArray⟩ : ByteArray).size ≤ 122 := by show T.toArray.size ≤ 122; simpa using htl
      have hll : (L ++ ab.data.toList).length ≤ 202 + 124 * k := by
        have : ab.data.toList.length = ab.size := by simp
        rw [List.length_append]; omega
      go_wp2_with (go_at_call 21; refine (writeStr_at w1.heap.size w1.heap.size (L ++ ab.data.toList) ⟨T.toArray⟩ _ h4 (by omega) hB4).mono ?_; rintro e w5 ⟨rfl, h5', hb5, hB5⟩; refine Hid.out ?_)
      refine Lib.hid ?_
      have HE : Hid (L ++ ab.data.toList ++ T = n.data.toList ++ joinL [40] ((vs.take (k + 1)).map Vb.l)) := by
        show _ = _
        rw [unhide HJ, unhide HT, ← unhide HL, unhide HA]; simp
      go_wp2_with fail
      go_roundw
      case rel =>
        refine ⟨k + 1, ⟨#[44, 32]⟩, by omega, by go_num, rfl, hide (by simp), ?_, ?_, (hbw3.trans hb4).trans hb5⟩
        · rw [← unhide HE, List.length_append]
          have : T.length ≤ 122 := htl
          omega
        · rw [← unhide HE]; exact h5'
      case measure => simp [intOf]; omega
    · have hk' : k = len := by omega
      by_cases hz : len = 0
      · have HE : Hid (n.data.toList ++ joinL [40] ((vs.take k).map Vb.l) = textF (n.data.toList, vs.map Vb.l)) := by
          show _ = _
          have : vs = [] := List.eq_nil_of_length_eq_zero (by omega)
          subst this
          simp [textF, joinL]
        generalize n.data.toList ++ joinL [40] ((vs.take k).map Vb.l) = L at hI HE
        subst hk'
        subst hz
        go_wp2_with (go_at_call 24; refine (Tryd.Builder_String_any w1.heap.size w1.heap.size _ _ hI hbw.size).mono ?_; rintro e w3 ⟨rfl, hb3⟩)
        go_ret2
        exact ⟨ret_ss (by rw [unhide HE]), hw1.trans ((hbw.trans hb3).mono (by omega))⟩
      · have HE : Hid (n.data.toList ++ joinL [40] ((vs.take k).map Vb.l) ++ [41] = textF (n.data.toList, vs.map Vb.l)) := by
          show _ = _
          have h1 : vs.take k = vs := List.take_of_length_le (by omega)
          have h2 : (vs.map Vb.l).isEmpty = false := by
            cases vs with
            | nil => simp at hl; omega
            | cons v r => rfl
          rw [h1]
          simp [textF, h2]
        have hp : 0 < len := by omega
        generalize n.data.toList ++ joinL [40] ((vs.take k).map Vb.l) = L at hI HE hlenk
        clear hk' hz
        go_wp2_with (go_at_call 23; refine (writeByte_at w1.heap.size w1.heap.size _ 41 _ rfl _ hI (by omega) hbw.size).mono ?_; rintro e w3 ⟨rfl, h3, hb3, hB3⟩; refine Hid.out ?_)
        refine Lib.hid ?_
        go_wp2_with (go_at_call 24; refine (Tryd.Builder_String_any w1.heap.size w1.heap.size _ _ h3 hB3).mono ?_; rintro e w4 ⟨rfl, hb4⟩)
        go_ret2
        exact ⟨ret_ss (by rw [unhide HE]), hw1.trans (((hbw.trans hb3).trans hb4).mono (by omega))⟩
end Go.Proofs.YtbdfdpioegjfhaaDoor
